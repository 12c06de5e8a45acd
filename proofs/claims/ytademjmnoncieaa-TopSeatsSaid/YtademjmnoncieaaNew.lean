/-
  New, Len, Min, Key of the program; a heap that is nil, or that New did not make.
  Conditions: the heap lies in memory.
-/
import Derived.Test.YtademjmnoncieaaHas
set_option linter.unusedVariables false
namespace Go.Proofs.Ytademjmnoncieaa
open Go.RowKit

/-- Nobody has a key. -/
def emptyS (n : Nat) : Hs := ⟨n, 0, fun _ => 0, fun _ => 0, fun _ => 0, fun _ => 0⟩
theorem emptyS_okay (n : Nat) : Okay (emptyS n) :=
  ⟨⟨fun i hi => absurd hi (Nat.not_lt_zero i), fun i hi => absurd hi (Nat.not_lt_zero i), fun i hi => absurd hi (Nat.not_lt_zero i), fun x _ h => absurd h (Nat.lt_irrefl 0)⟩, fun i _ hi => absurd hi (Nat.not_lt_zero i)⟩

theorem Try.infoKey : (Try.prog.info? 61).map (fun i => (i.zero, i.size, i.bytes)) = some (some (.agg #[.int .u64 0, .int .u64 0, .int .i64 0]), 3, 24) := by kernel_rfl

def key0 : Array Value := #[.int .u64 0, .int .u64 0, .int .i64 0]
theorem mk_keys (W : World) (n : Nat) (h : n ≤ 1024) : (Instr.makeSlice 50 (.int .i64 (n : Int)) (.int .i64 (n : Int))).run Try.prog W = .ok (.slice (some ⟨W.heap.size, 0, none⟩) n n) (W.alloc (.cells (madeCells key0 (n * 3)) 61)) := by
  obtain ⟨i, hi, e⟩ := Option.map_eq_some_iff.1 Try.infoKey
  simp only [Prod.mk.injEq] at e
  obtain ⟨e1, e2, e3⟩ := e
  have hr := run_make (P := Try.prog) W 50 61 i (.agg #[.int .u64 0, .int .u64 0, .int .i64 0]) Try.underlying50 hi e1 .i64 .i64 n n (by omega) (Int.le_refl _) (by rw [e3]; omega) (by omega)
  rw [hr, e2]
  simp only [Int.toNat_natCast]
  rfl
theorem made_at (n i : Nat) (hi : i < n) : (madeCells key0 (n * 3))[i * 3]? = some (.int .u64 0) ∧ (madeCells key0 (n * 3))[i * 3 + 1]? = some (.int .u64 0) ∧ (madeCells key0 (n * 3))[i * 3 + 2]? = some (.int .i64 0) := by
  have h : ∀ j, j < n * 3 → (madeCells key0 (n * 3))[j]? = some (key0[j % 3]!) := by
    intro j hj
    simp [madeCells, hj]
    rfl
  rw [h _ (by omega), h _ (by omega), h _ (by omega), Nat.mul_mod_left, show (i * 3 + 1) % 3 = 1 by omega, show (i * 3 + 2) % 3 = 2 by omega]
  exact ⟨rfl, rfl, rfl⟩

def RetNew (n : Nat) (w : World) (e : Ending) (w' : World) : Prop :=
  e = .returned (.tuple #[.pointer (some ⟨w.heap.size + 1, 0, none⟩), .int .i64 0]) ∧ HeapAt w' (w.heap.size + 1) w.heap.size (.slice none 0 0) (emptyS n) ∧ Below w.heap.size w w'

set_option maxRecDepth 100000 in
set_option maxHeartbeats 2000000 in
theorem new_ok (W : World) (n : Nat) (h0 : 0 < n) (h1 : n ≤ 1024) : Calls Try.prog 7 #[.int .i64 n] W (RetNew n W) := by
  have hmk := fun w => mk_keys w n h1
  have z1 : ¬ (n : Int) < 1 := by omega
  have z2 : ¬ (1024 : Int) < (n : Int) := by omega
  have z3 : decide ((n : Int) < 1) = false := decide_eq_false z1
  have z4 : decide ((1024 : Int) < (n : Int)) = false := decide_eq_false z2
  go_enter Try.func7, Try.ntmps7
  go_wp2
  go_returns
  refine ⟨rfl, ?_, ((Below.refl _ _).alloc (Nat.le_refl _) _).alloc (by simp) _⟩
  refine ⟨?_, ⟨madeCells key0 (n * 3), ?_, ?_, fun i hi => made_at n i hi⟩, .inl ⟨rfl, rfl⟩, by omega, by simp [Value.ownBlock], by simp [Value.ownBlock], h0, h1, by simp [emptyS], fun i hi => by simp [emptyS], fun i hi => by simp [emptyS]⟩
  · have h := heap_alloc_new (W.alloc (.cells (madeCells key0 (n * 3)) 61)) (.cells #[.slice (some ⟨W.heap.size, 0, none⟩) n n, .slice none 0 0] 53)
    rw [World.size_alloc] at h
    exact h
  · rw [Below.heap_alloc _ _ _ (by simp)]
    exact heap_alloc_new W _
  · simp [madeCells, emptyS]
theorem new_bad (W : World) (n : Int) (h : n < 1 ∨ 1024 < n) : Calls Try.prog 7 #[.int .i64 n] W (Ret6 (.tuple #[.pointer none, .int .i64 1]) W) := by
  by_cases h0 : n < 1
  · go_enter Try.func7, Try.ntmps7
    go_wp2
    go_returns
    exact ⟨rfl, rfl⟩
  · have h1 : 1024 < n := by omega
    have z3 : decide (n < 1) = false := decide_eq_false h0
    go_enter Try.func7, Try.ntmps7
    go_wp2
    go_returns
    exact ⟨rfl, rfl⟩

theorem HeapAt.form {W : World} {hb kb : Nat} {lv : Value} {s : Hs} (h : HeapAt W hb kb lv s) : ∃ A c, lv = .slice A s.m c := by
  rcases h.line with ⟨rfl, h0⟩ | ⟨g, cap, cur, rfl, _⟩
  · exact ⟨none, 0, by rw [h0]⟩
  · exact ⟨_, _, rfl⟩

theorem len_any (W : World) (hb kb : Nat) (lv : Value) (s : Hs) (h : HeapAt W hb kb lv s) : Calls Try.prog 18 #[.pointer (some ⟨hb, 0, none⟩)] W (Ret6 (.int .i64 s.m) W) := by
  obtain ⟨A, c, rfl⟩ := h.form
  obtain ⟨c0, c1, _, _⟩ := h.heads
  generalize s.m = m at *
  generalize s.n = n at *
  clear h
  go_enter Try.func18, Try.ntmps18
  go_wp2
  go_ret
  exact ⟨rfl, rfl⟩
theorem len_nil (W : World) : Calls Try.prog 18 #[.pointer none] W (Ret6 (.int .i64 0) W) := by
  go_enter Try.func18, Try.ntmps18
  go_wp2
  go_ret
  exact ⟨rfl, rfl⟩
theorem len_bare (W : World) (hb : Nat) (h : Bare W hb) : Calls Try.prog 18 #[.pointer (some ⟨hb, 0, none⟩)] W (Ret6 (.int .i64 0) W) := by
  obtain ⟨c0, c1⟩ := h.heads
  clear h
  go_enter Try.func18, Try.ntmps18
  go_wp2
  go_ret
  exact ⟨rfl, rfl⟩

/-- Who stands first. -/
def minV (s : Hs) : Value := if s.m = 0 then .tuple #[.int .i64 0, .bool false] else .tuple #[.int .i64 (s.L 0), .bool true]
theorem min_any (W : World) (hb kb : Nat) (lv : Value) (s : Hs) (h : HeapAt W hb kb lv s) : Calls Try.prog 15 #[.pointer (some ⟨hb, 0, none⟩)] W (Ret6 (minV s) W) := by
  have HLEN := Lib.hid (len_any W hb kb lv s h)
  unfold minV
  by_cases h0 : s.m = 0
  · rw [if_pos h0]
    rw [h0] at HLEN
    clear h h0
    go_enter Try.func15, Try.ntmps15
    go_wp2_with fail
    refine HLEN.out.mono ?_
    rintro e w1 ⟨rfl, rfl⟩
    go_wp2
    go_ret2
    exact ⟨rfl, rfl⟩
  · rw [if_neg h0]
    obtain ⟨g, cap, rfl, hc1, hc2, hg1, hg2, hg3, hcell, _⟩ := h.row (by omega)
    obtain ⟨c0, c1, _, _⟩ := h.heads
    have ca := hcell 0 (by omega)
    have z1 : (0 : Int) < (s.m : Int) := by omega
    have z2 : ((s.m : Int) == 0) = false := by simp; omega
    have z3 : 0 < s.m := by omega
    generalize s.L 0 = x at *
    generalize s.n = n at *
    clear h hcell
    generalize s.m = m at *
    go_enter Try.func15, Try.ntmps15
    go_wp2_with fail
    refine HLEN.out.mono ?_
    rintro e w1 ⟨rfl, rfl⟩
    go_wp2
    go_ret2
    exact ⟨rfl, rfl⟩
theorem min_none (W : World) (v : Value) (h : Calls Try.prog 18 #[v] W (Ret6 (.int .i64 0) W)) : Calls Try.prog 15 #[v] W (Ret6 (.tuple #[.int .i64 0, .bool false]) W) := by
  have HLEN := Lib.hid h
  clear h
  go_enter Try.func15, Try.ntmps15
  go_wp2_with fail
  refine HLEN.out.mono ?_
  rintro e w1 ⟨rfl, rfl⟩
  go_wp2
  go_ret2
  exact ⟨rfl, rfl⟩
theorem pop_none (W : World) (v : Value) (h : Calls Try.prog 18 #[v] W (Ret6 (.int .i64 0) W)) : Calls Try.prog 14 #[v] W (Ret6 (.tuple #[.int .i64 0, .bool false]) W) := by
  have HM := Lib.hid (min_none W v h)
  clear h
  go_enter Try.func14, Try.ntmps14
  go_wp2_with fail
  refine HM.out.mono ?_
  rintro e w1 ⟨rfl, rfl⟩
  go_wp2
  go_ret2
  exact ⟨rfl, rfl⟩

def keyNone : Value := .tuple #[.int .u64 0, .int .u64 0, .bool false]
def keyV (s : Hs) (id : Int) : Value := if hasKey s id = true then .tuple #[.int .u64 (s.num id.toNat), .int .u64 (s.den id.toNat), .bool true] else keyNone
theorem key_none (W : World) (v : Value) (id : Int) (h : Calls Try.prog 24 #[v, .int .i64 id] W (Ret6 (.bool false) W)) : Calls Try.prog 16 #[v, .int .i64 id] W (RetB6 keyNone W) := by
  have HM := Lib.hid h
  clear h
  go_enter Try.func16, Try.ntmps16
  go_wp2_with fail
  refine HM.out.mono ?_
  rintro e w1 ⟨rfl, rfl⟩
  go_wp2
  go_returns
  exact ⟨rfl, Below.refl _ _⟩
set_option maxRecDepth 100000 in
set_option maxHeartbeats 2000000 in
theorem key_any (W : World) (hb kb : Nat) (lv : Value) (s : Hs) (id : Int) (h : HeapAt W hb kb lv s) : Calls Try.prog 16 #[.pointer (some ⟨hb, 0, none⟩), .int .i64 id] W (RetB6 (keyV s id) W) := by
  have HH := has_any W hb kb lv s id h
  unfold keyV
  by_cases hk : hasKey s id = true
  · rw [if_pos hk]
    rw [hk] at HH
    obtain ⟨k0, k1, k2⟩ := of_decide_eq_true hk
    obtain ⟨x, rfl⟩ : ∃ x : Nat, id = x := ⟨id.toNat, by omega⟩
    rw [Int.toNat_natCast] at *
    obtain ⟨c0, c1, _, _⟩ := h.heads
    obtain ⟨a0, a1, a2⟩ := h.key k1
    have z1 : (x : Int) < (s.n : Int) := by omega
    have HM := Lib.hid HH
    generalize s.num x = nu at *
    generalize s.den x = de at *
    clear h hk HH a2
    generalize s.n = n at *
    go_enter Try.func16, Try.ntmps16
    go_wp2_with fail
    refine HM.out.mono ?_
    rintro e w1 ⟨rfl, rfl⟩
    go_wp2_with fail
    go_quiet (fail)
    go_wp2
    go_returns
    exact ⟨rfl, below6_drewN (Below.refl _ _) _⟩
  · rw [if_neg hk]
    rw [show hasKey s id = false by simpa using hk] at HH
    exact key_none W _ id HH
end Go.Proofs.Ytademjmnoncieaa
