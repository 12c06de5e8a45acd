/-
  has, precedes, below of the program.
  Conditions: the heap lies in memory.
-/
import Derived.Test.YtademjmnoncieaaHeapAt
set_option linter.unusedVariables false
namespace Go.Proofs.Ytademjmnoncieaa
open Go.RowKit

def aheadB (nx dx x ny dy y : Nat) : Bool := decide (nx * dy < ny * dx) || (decide (nx * dy = ny * dx) && decide (x < y))
theorem aheadB_iff (s : Hs) (x y : Nat) : aheadB (s.num x) (s.den x) x (s.num y) (s.den y) y = true ↔ s.lt x y := by
  unfold aheadB Hs.lt ahead
  simp
/-- Has the id, which may be any number, a key? -/
def hasKey (s : Hs) (id : Int) : Bool := decide (0 ≤ id ∧ id.toNat < s.n ∧ 0 < s.den id.toNat)
theorem hasKey_nat (s : Hs) (x : Nat) : hasKey s (x : Int) = decide (x < s.n ∧ 0 < s.den x) := by
  unfold hasKey
  rw [Int.toNat_natCast]
  simp

set_option maxRecDepth 100000 in
set_option maxHeartbeats 2000000 in
theorem has_any (W : World) (hb kb : Nat) (lv : Value) (s : Hs) (id : Int) (h : HeapAt W hb kb lv s) :
    Calls Try.prog 24 #[.pointer (some ⟨hb, 0, none⟩), .int .i64 id] W (Ret6 (.bool (hasKey s id)) W) := by
  have H := Lib.hid h
  obtain ⟨c0, c1, f0, f1⟩ := h.heads
  clear h f0 f1 c1
  by_cases h0 : 0 ≤ id
  · obtain ⟨x, rfl⟩ : ∃ x : Nat, id = x := ⟨id.toNat, by omega⟩
    rw [hasKey_nat]
    have z0 : (0 : Int) ≤ (x : Int) := by omega
    by_cases h1 : x < s.n
    · obtain ⟨k0, k1, k2⟩ := H.out.key h1
      have z1 : (x : Int) < (s.n : Int) := by omega
      clear k0 k2
      by_cases h2 : 0 < s.den x
      · have e : decide (x < s.n ∧ 0 < s.den x) = true := decide_eq_true ⟨h1, h2⟩
        have z2 : ((s.den x : Int) != 0) = true := by simp; omega
        rw [e]
        generalize s.den x = d at *
        generalize s.n = n at *
        clear e h2
        go_enter Try.func24, Try.ntmps24
        go_wp2
        go_ret
        exact ⟨rfl, rfl⟩
      · have e : decide (x < s.n ∧ 0 < s.den x) = false := decide_eq_false (fun h => h2 h.2)
        have z2 : s.den x = 0 := by omega
        rw [e]
        rw [z2] at k1
        generalize s.n = n at *
        clear e h2 z2
        go_enter Try.func24, Try.ntmps24
        go_wp2
        go_ret
        exact ⟨rfl, rfl⟩
    · have e : decide (x < s.n ∧ 0 < s.den x) = false := decide_eq_false (fun h => h1 h.1)
      have z1 : decide ((x : Int) < (s.n : Int)) = false := decide_eq_false (by omega)
      rw [e]
      generalize s.n = n at *
      clear e
      go_enter Try.func24, Try.ntmps24
      go_wp2
      go_ret
      exact ⟨rfl, rfl⟩
  · have e : hasKey s id = false := decide_eq_false (fun h => h0 h.1)
    have z1 : decide (0 ≤ id) = false := decide_eq_false h0
    rw [e]
    clear e h0
    go_enter Try.func24, Try.ntmps24
    go_wp2
    go_ret
    exact ⟨rfl, rfl⟩

/-- Nobody made it. -/
theorem has_nil (W : World) (id : Int) : Calls Try.prog 24 #[.pointer none, .int .i64 id] W (Ret6 (.bool false) W) := by
  go_enter Try.func24, Try.ntmps24
  go_wp2
  go_ret
  exact ⟨rfl, rfl⟩

/-- A heap that New did not make. -/
def Bare (W : World) (hb : Nat) : Prop := W.heap[hb]? = some (.cells #[.slice none 0 0, .slice none 0 0] 53 (0, 0))
theorem Bare.heads {W : World} {hb : Nat} (h : Bare W hb) : W.cell? ⟨hb, 0, none⟩ = some (.slice none 0 0) ∧ W.cell? ⟨hb, 1, none⟩ = some (.slice none 0 0) := by
  unfold Bare at h
  refine ⟨?_, ?_⟩ <;> simp [World.cell?, h]
theorem has_bare (W : World) (hb : Nat) (id : Int) (h : Bare W hb) : Calls Try.prog 24 #[.pointer (some ⟨hb, 0, none⟩), .int .i64 id] W (Ret6 (.bool false) W) := by
  obtain ⟨c0, c1⟩ := h.heads
  clear h
  by_cases h0 : 0 ≤ id
  · have z1 : decide (id < 0) = false := decide_eq_false (by omega)
    go_enter Try.func24, Try.ntmps24
    go_wp2
    go_ret
    exact ⟨rfl, rfl⟩
  · have z1 : decide (0 ≤ id) = false := decide_eq_false h0
    go_enter Try.func24, Try.ntmps24
    go_wp2
    go_ret
    exact ⟨rfl, rfl⟩

theorem new0 (W : World) (n j : Nat) (cs : Array Value) (T : TypeId) : ((W.drewN n).alloc (.cells cs T)).cell? ⟨W.heap.size, j, none⟩ = cs[j]? ∧ ((W.drewN n).alloc (.cells cs T)).frozen? ⟨W.heap.size, j, none⟩ = false :=
  ⟨World.cell?_alloc_new (w := W.drewN n) cs T j, World.frozen?_alloc_new (w := W.drewN n) cs T j⟩
theorem new1 (W : World) (n j : Nat) (cs : Array Value) (T : TypeId) (o : Obj) : (((W.drewN n).alloc (.cells cs T)).alloc o).cell? ⟨W.heap.size, j, none⟩ = cs[j]? ∧ (((W.drewN n).alloc (.cells cs T)).alloc o).frozen? ⟨W.heap.size, j, none⟩ = false :=
  ⟨World.cell?_alloc2_first (w := W.drewN n) cs T o j, World.frozen?_alloc2_first (w := W.drewN n) cs T o j⟩
theorem new2 (W : World) (n j : Nat) (cs : Array Value) (T : TypeId) (o : Obj) : (((W.drewN n).alloc o).alloc (.cells cs T)).cell? ⟨W.heap.size + 1, j, none⟩ = cs[j]? ∧ (((W.drewN n).alloc o).alloc (.cells cs T)).frozen? ⟨W.heap.size + 1, j, none⟩ = false :=
  ⟨World.cell?_alloc2_new (w := W.drewN n) o cs T j, World.frozen?_alloc2_new (w := W.drewN n) o cs T j⟩

set_option maxRecDepth 100000 in
set_option maxHeartbeats 4000000 in
theorem precedes_any (W : World) (hb kb : Nat) (lv : Value) (s : Hs) (a b : Nat) (h : HeapAt W hb kb lv s) (ha : a < s.m) (hb' : b < s.m) (la : s.L a < s.n) (lb : s.L b < s.n) (da : 0 < s.den (s.L a)) (db : 0 < s.den (s.L b)) :
    Calls Try.prog 46 #[.pointer (some ⟨hb, 0, none⟩), .int .i64 a, .int .i64 b] W (RetB6 (.bool (aheadB (s.num (s.L a)) (s.den (s.L a)) (s.L a) (s.num (s.L b)) (s.den (s.L b)) (s.L b))) W) := by
  obtain ⟨g, cap, rfl, hc1, hc2, hg1, hg2, hg3, hcell, _⟩ := h.row (by omega)
  obtain ⟨c0, c1, _, _⟩ := h.heads
  have ca := hcell a ha
  have cb := hcell b hb'
  obtain ⟨ka0, ka1, ka2⟩ := h.key la
  obtain ⟨kb0, kb1, kb2⟩ := h.key lb
  have b1 := h.w1 _ la
  have b2 := h.w2 _ la
  have b3 := h.w1 _ lb
  have b4 := h.w2 _ lb
  have z1 : (a : Int) < (s.m : Int) := by omega
  have z2 : (b : Int) < (s.m : Int) := by omega
  have z3 : ((s.L a : Nat) : Int) < (s.n : Int) := by omega
  have z4 : ((s.L b : Nat) : Int) < (s.n : Int) := by omega
  generalize s.L a = x at *
  generalize s.L b = y at *
  generalize s.num x = nx at *
  generalize s.den x = dx at *
  generalize s.num y = ny at *
  generalize s.den y = dy at *
  have d1 : (dx == 0) = false := by simp; omega
  have d2 : (dy == 0) = false := by simp; omega
  have HC0 := fun w => compare_ok nx dx ny dy b1 b2 b3 b4 d1 d2 w
  have HR : (cmpN (nx * dy) (ny * dx) = -1 ∧ aheadB nx dx x ny dy y = true) ∨ (cmpN (nx * dy) (ny * dx) = 1 ∧ aheadB nx dx x ny dy y = false) ∨ (cmpN (nx * dy) (ny * dx) = 0 ∧ aheadB nx dx x ny dy y = decide (x < y)) := by
    unfold cmpN aheadB
    by_cases e1 : nx * dy < ny * dx
    · left; simp [e1]
    · by_cases e2 : nx * dy = ny * dx
      · right; right; simp [e2]
      · right; left; simp [e1, e2]
  generalize cmpN (nx * dy) (ny * dx) = c at *
  generalize aheadB nx dx x ny dy y = r at *
  have HC := Lib.hid HC0
  have HR := Lib.hid HR
  clear HC0
  obtain ⟨px, hpx⟩ : ∃ p : Nat, s.pl x = p := ⟨_, rfl⟩
  obtain ⟨py, hpy⟩ : ∃ p : Nat, s.pl y = p := ⟨_, rfl⟩
  rw [hpx] at ka2
  rw [hpy] at kb2
  generalize s.n = n at *
  generalize s.m = m at *
  clear h hcell b1 b2 b3 b4 d1 d2 hpx hpy
  have t1 := World.block_lt_of_cell? W ⟨hb, 0, none⟩ c0
  have t2 := World.block_lt_of_cell? W ⟨kb, x * 3, none⟩ ka0
  simp only at t1 t2
  have q1 : hb ≠ W.heap.size := by omega
  have q2 : hb ≠ W.heap.size + 1 := by omega
  have q3 : kb ≠ W.heap.size := by omega
  have q4 : kb ≠ W.heap.size + 1 := by omega
  have q5 : W.heap.size ≠ hb := by omega
  have q6 : W.heap.size + 1 ≠ hb := by omega
  have q7 : W.heap.size ≠ kb := by omega
  have q8 : W.heap.size + 1 ≠ kb := by omega
  clear t1 t2
  have u0 := fun n j cs T => (new0 W n j cs T).1
  have u1 := fun n j cs T o => (new1 W n j cs T o).1
  have u2 := fun n j cs T o => (new2 W n j cs T o).1
  have v0 := fun n j cs T => (new0 W n j cs T).2
  have v1 := fun n j cs T o => (new1 W n j cs T o).2
  have v2 := fun n j cs T o => (new2 W n j cs T o).2
  go_enter Try.func46, Try.ntmps46
  go_wp2_with fail
  go_quiet (fail)
  go_wp2_with fail
  go_region_held3 (fun w' => w'.cell? ⟨hb, 0, none⟩ = some (.slice (some ⟨kb, 0, none⟩) n n) ∧ w'.cell? ⟨kb, x * 3, none⟩ = some (.int .u64 nx) ∧ w'.cell? ⟨kb, x * 3 + 1, none⟩ = some (.int .u64 dx) ∧ w'.cell? ⟨kb, x * 3 + 2, none⟩ = some (.int .i64 px) ∧
      w'.cell? ⟨kb, y * 3, none⟩ = some (.int .u64 ny) ∧ w'.cell? ⟨kb, y * 3 + 1, none⟩ = some (.int .u64 dy) ∧ w'.cell? ⟨kb, y * 3 + 2, none⟩ = some (.int .i64 py)) (go_keep) (fail)
  all_goals
    go_wp2_with fail
    refine (HC.out _).mono ?_
    rintro e w1 ⟨rfl, rfl⟩
    rcases HR.out with ⟨rfl, rfl⟩ | ⟨rfl, rfl⟩ | ⟨rfl, rfl⟩
  all_goals
    go_wp2
    go_ret
    exact ⟨rfl, by go_grown; exact below6_drewN (Below.refl _ _) _⟩
end Go.Proofs.Ytademjmnoncieaa
