/-
  inUse, Find, Get, Len, New of a table of uint64.
  Conditions: the table lies in memory.
-/
import Derived.Test.YtlnheknhdabhdaaTabU
set_option linter.unusedVariables false
namespace Go.Proofs.Ytlnheknhdabhdaa.TU
open Go.RowKit

theorem inU_at {s : Ts Int} {q : Int} {i : Nat} (h0 : 1 ≤ q) (h1 : q ≤ (s.m : Int)) (h2 : q - 1 = (i : Int)) : inU s q = s.use i := by
  unfold inU
  rw [decide_eq_true ⟨h0, h1⟩, show q.toNat - 1 = i by omega]
  rfl
theorem inU_out {s : Ts Int} {q : Int} (h : ¬ (1 ≤ q ∧ q ≤ (s.m : Int))) : inU s q = false := by
  unfold inU
  rw [decide_eq_false h]
  rfl

set_option maxRecDepth 100000 in
set_option maxHeartbeats 4000000 in
theorem inUse_any (W : World) (tb : Nat) (sv fv : Value) (s : Ts Int) (q : Int) (h : TabAt W tb sv fv s) (hm : s.m ≤ 1024) :
    Calls Try.prog 30 #[.pointer (some ⟨tb, 0, none⟩), .int .i64 q] W (Ret (.bool (inU s q)) W) := by
  obtain ⟨c0, c1, c2, _, _⟩ := h.heads
  by_cases h0 : 1 ≤ q
  · by_cases h1 : q ≤ (s.m : Int)
    · obtain ⟨i, hi⟩ : ∃ i : Nat, q - 1 = (i : Int) := ⟨q.toNat - 1, by omega⟩
      rw [inU_at h0 h1 hi]
      obtain ⟨g, cap, rfl, _, _, _, hc, _⟩ := h.slots.row (by omega)
      obtain ⟨_, _, k2⟩ := hc i (by omega)
      have z1 : wrap64 (i : Int) = (i : Int) := wrap64_small (by omega) (by omega)
      have z2 : (i : Int) < (s.m : Int) := by omega
      generalize s.use i = u at *
      generalize s.m = m at *
      generalize s.n = n at *
      clear h hc
      go_enter Try.func30, Try.ntmps30
      go_wp2
      go_ret
      exact ⟨rfl, rfl⟩
    · rw [inU_out (fun h => h1 h.2)]
      obtain ⟨A, c, rfl⟩ := h.slots.form
      have z1 : decide (q ≤ (s.m : Int)) = false := decide_eq_false h1
      generalize s.m = m at *
      generalize s.n = n at *
      clear h
      go_enter Try.func30, Try.ntmps30
      go_wp2
      go_ret
      exact ⟨rfl, rfl⟩
  · rw [inU_out (fun h => h0 h.1)]
    have z1 : decide (1 ≤ q) = false := decide_eq_false h0
    clear h
    go_enter Try.func30, Try.ntmps30
    go_wp2
    go_ret
    exact ⟨rfl, rfl⟩
/-- Nobody made it. -/
theorem inUse_nil (W : World) (q : Int) : Calls Try.prog 30 #[.pointer none, .int .i64 q] W (Ret (.bool false) W) := by
  go_enter Try.func30, Try.ntmps30
  go_wp2
  go_ret
  exact ⟨rfl, rfl⟩
/-- A table that New did not make. -/
def Bare (W : World) (tb : Nat) : Prop := W.heap[tb]? = some (.cells #[.int .i64 0, .slice none 0 0, .slice none 0 0] 69 (0, 0))
theorem Bare.heads {W : World} {tb : Nat} (h : Bare W tb) : W.cell? ⟨tb, 0, none⟩ = some (.int .i64 0) ∧ W.cell? ⟨tb, 1, none⟩ = some (.slice none 0 0) ∧ W.cell? ⟨tb, 2, none⟩ = some (.slice none 0 0) := by
  unfold Bare at h
  refine ⟨?_, ?_, ?_⟩ <;> simp [World.cell?, h]
theorem Bare.keep {W W' : World} {tb : Nat} (h : Bare W tb) (hk : Below W.heap.size W W') : Bare W' tb := (hk.block tb (heap_lt h)).trans h
theorem inUse_bare (W : World) (tb : Nat) (q : Int) (h : Bare W tb) : Calls Try.prog 30 #[.pointer (some ⟨tb, 0, none⟩), .int .i64 q] W (Ret (.bool false) W) := by
  obtain ⟨c0, c1, c2⟩ := h.heads
  clear h
  by_cases h0 : 1 ≤ q
  · have z1 : decide (q ≤ 0) = false := decide_eq_false (by omega)
    have z2 : ¬ q ≤ 0 := by omega
    go_enter Try.func30, Try.ntmps30
    go_wp2
    go_ret
    exact ⟨rfl, rfl⟩
  · have z1 : decide (1 ≤ q) = false := decide_eq_false h0
    go_enter Try.func30, Try.ntmps30
    go_wp2
    go_ret
    exact ⟨rfl, rfl⟩

def findNone : Value := .tuple #[.int .u64 0, .int .i64 0, .bool false]
def findV (s : Ts Int) (q : Int) : Value := if inU s q = true then .tuple #[Value.int .u64 (s.x (q.toNat - 1)), .int .i64 (s.gen (q.toNat - 1)), .bool true] else findNone
theorem find_none (W : World) (v : Value) (q : Int) (h : Calls Try.prog 30 #[v, .int .i64 q] W (Ret (.bool false) W)) : Calls Try.prog 18 #[v, .int .i64 q] W (RetB findNone W) := by
  have HM := Lib.hid h
  clear h
  go_enter Try.func18, Try.ntmps18
  go_wp2_with fail
  refine HM.out.mono ?_
  rintro e w1 ⟨rfl, rfl⟩
  go_wp2
  go_returns
  exact ⟨rfl, Below.refl _ _⟩
set_option maxRecDepth 100000 in
set_option maxHeartbeats 4000000 in
theorem find_any (W : World) (tb : Nat) (sv fv : Value) (s : Ts Int) (q : Int) (h : TabAt W tb sv fv s) (hm : s.m ≤ 1024) :
    Calls Try.prog 18 #[.pointer (some ⟨tb, 0, none⟩), .int .i64 q] W (RetB (findV s q) W) := by
  have HH := inUse_any W tb sv fv s q h hm
  unfold findV
  by_cases hk : inU s q = true
  · rw [if_pos hk]
    rw [hk] at HH
    obtain ⟨i, rfl, hi, hu⟩ := inU_some hk
    rw [Int.toNat_natCast, show i + 1 - 1 = i by omega] at *
    obtain ⟨qq, hq⟩ : ∃ qq : Int, ((i + 1 : Nat) : Int) = qq := ⟨_, rfl⟩
    rw [hq] at HH ⊢
    have z0 : qq - 1 = (i : Int) := by omega
    have HM := Lib.hid HH
    obtain ⟨c0, c1, c2, _, _⟩ := h.heads
    obtain ⟨g, cap, rfl, _, _, hgl, hc, _⟩ := h.slots.row (by omega)
    obtain ⟨k0, k1, k2⟩ := hc i hi
    have z1 : wrap64 (i : Int) = (i : Int) := wrap64_small (by omega) (by omega)
    have z2 : (i : Int) < (s.m : Int) := by omega
    generalize s.x i = x at *
    generalize s.gen i = ge at *
    generalize s.use i = u at *
    generalize s.m = m at *
    generalize s.n = n at *
    clear h hc hk hq HH
    go_enter Try.func18, Try.ntmps18
    go_wp2_with fail
    refine HM.out.mono ?_
    rintro e w1 ⟨rfl, rfl⟩
    go_wp2_with fail
    have u0 := new0 W
    go_quiet (fail)
    go_wp2
    go_returns
    exact ⟨rfl, below_drewN ((Below.refl _ _).alloc (Nat.le_refl _) _) _⟩
  · rw [if_neg hk]
    rw [show inU s q = false by simpa using hk] at HH
    exact find_none W _ q HH
end Go.Proofs.Ytlnheknhdabhdaa.TU
