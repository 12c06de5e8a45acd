/-
  Get, Len, New of a table of int.
  Conditions: the table lies in memory.
-/
import Derived.Test.YtgpbgakijjdkoaaReadI
set_option linter.unusedVariables false
namespace Go.Proofs.Ytgpbgakijjdkoaa.TI
open Go.RowKit

def getNone : Value := .tuple #[.int .i64 0, .bool false]
def getV (s : Ts Int) (q g : Int) : Value := if inU s q = true ∧ (s.gen (q.toNat - 1) : Int) = g then .tuple #[Value.int .i64 (s.x (q.toNat - 1)), .bool true] else getNone
theorem get_none (W : World) (v : Value) (q g : Int) (h : Calls Try.prog 14 #[v, .int .i64 q] W (RetB findNone W)) : Calls Try.prog 15 #[v, .int .i64 q, .int .i64 g] W (RetB getNone W) := by
  have HM := Lib.hid h
  clear h
  go_enter Try.func15, Try.ntmps15
  go_wp2_with fail
  refine HM.out.mono ?_
  rintro e w1 ⟨rfl, hb⟩
  simp only [findNone]
  have HB := Lib.hid hb
  clear hb
  go_wp2
  go_returns
  exact ⟨rfl, HB.out⟩
set_option maxRecDepth 100000 in
set_option maxHeartbeats 4000000 in
theorem get_any (W : World) (tb : Nat) (sv fv : Value) (s : Ts Int) (q g : Int) (h : TabAt W tb sv fv s) (hm : s.m ≤ 1024) :
    Calls Try.prog 15 #[.pointer (some ⟨tb, 0, none⟩), .int .i64 q, .int .i64 g] W (RetB (getV s q g) W) := by
  have HH := find_any W tb sv fv s q h hm
  unfold getV
  unfold findV at HH
  by_cases hk : inU s q = true
  · rw [if_pos hk] at HH
    have HM := Lib.hid HH
    by_cases hg : (s.gen (q.toNat - 1) : Int) = g
    · rw [if_pos ⟨hk, hg⟩]
      subst hg
      generalize s.x (q.toNat - 1) = x at *
      generalize s.gen (q.toNat - 1) = ge at *
      clear h hk HH
      go_enter Try.func15, Try.ntmps15
      go_wp2_with fail
      refine HM.out.mono ?_
      rintro e w1 ⟨rfl, hb⟩
      have HB := Lib.hid hb
      clear hb
      go_wp2
      go_returns
      exact ⟨rfl, HB.out⟩
    · rw [if_neg (fun h => hg h.2)]
      generalize s.x (q.toNat - 1) = x at *
      generalize s.gen (q.toNat - 1) = ge at *
      have z1 : ((ge : Int) != g) = true := by simpa using hg
      clear h hk HH hg
      go_enter Try.func15, Try.ntmps15
      go_wp2_with fail
      refine HM.out.mono ?_
      rintro e w1 ⟨rfl, hb⟩
      have HB := Lib.hid hb
      clear hb
      go_wp2
      go_returns
      exact ⟨rfl, HB.out⟩
  · rw [if_neg (fun h => hk h.1)]
    rw [if_neg hk] at HH
    exact get_none W _ q g HH

theorem len_any (W : World) (tb : Nat) (sv fv : Value) (s : Ts Int) (h : TabAt W tb sv fv s) (hm : s.m ≤ 1024) (d : Nat) (hd : d + s.k = s.m) :
    Calls Try.prog 13 #[.pointer (some ⟨tb, 0, none⟩)] W (RetB (.int .i64 d) W) := by
  obtain ⟨c0, c1, c2, _, _⟩ := h.heads
  obtain ⟨A, c, rfl⟩ := h.slots.form
  obtain ⟨A', c', rfl⟩ := h.free.form
  have z0 : (s.m : Int) - (s.k : Int) = (d : Int) := by omega
  have z1 : wrap64 (d : Int) = (d : Int) := wrap64_small (by omega) (by omega)
  generalize s.m = m at *
  generalize s.k = k at *
  generalize s.n = n at *
  clear h hd
  go_enter Try.func13, Try.ntmps13
  go_wp2_with fail
  go_quiet (fail)
  go_wp2
  go_ret
  exact ⟨rfl, below_drewN (Below.refl _ _) _⟩
theorem len_nil (W : World) : Calls Try.prog 13 #[.pointer none] W (RetB (.int .i64 0) W) := by
  go_enter Try.func13, Try.ntmps13
  go_wp2
  go_ret
  exact ⟨rfl, Below.refl _ _⟩
theorem len_bare (W : World) (tb : Nat) (h : Bare W tb) : Calls Try.prog 13 #[.pointer (some ⟨tb, 0, none⟩)] W (RetB (.int .i64 0) W) := by
  obtain ⟨c0, c1, c2⟩ := h.heads
  clear h
  go_enter Try.func13, Try.ntmps13
  go_wp2_with fail
  go_quiet (fail)
  go_wp2
  go_ret
  exact ⟨rfl, below_drewN (Below.refl _ _) _⟩

def RetNew (n : Nat) (w : World) (e : Ending) (w' : World) : Prop :=
  e = .returned (.tuple #[.pointer (some ⟨w.heap.size, 0, none⟩), .int .i64 0]) ∧ TabAt w' w.heap.size (.slice none 0 0) (.slice none 0 0) (newT n 0) ∧ Below w.heap.size w w'
set_option maxRecDepth 100000 in
set_option maxHeartbeats 2000000 in
theorem new_ok (W : World) (n : Nat) (h0 : 0 < n) (h1 : n ≤ 1024) : Calls Try.prog 6 #[.int .i64 n] W (RetNew n W) := by
  have z1 : ¬ (n : Int) < 1 := by omega
  have z2 : ¬ (1024 : Int) < (n : Int) := by omega
  have z3 : decide ((n : Int) < 1) = false := decide_eq_false z1
  have z4 : decide ((1024 : Int) < (n : Int)) = false := decide_eq_false z2
  go_enter Try.func6, Try.ntmps6
  go_wp2
  go_returns
  refine ⟨rfl, ⟨heap_alloc_new W _, .inl ⟨rfl, rfl⟩, .inl ⟨rfl, rfl⟩, by simp [Value.ownBlock], by simp [Value.ownBlock], by simp [Value.ownBlock]⟩, (Below.refl _ _).alloc (Nat.le_refl _) _⟩
theorem new_bad (W : World) (n : Int) (h : n < 1 ∨ 1024 < n) : Calls Try.prog 6 #[.int .i64 n] W (Ret (.tuple #[.pointer none, .int .i64 1]) W) := by
  by_cases h0 : n < 1
  · go_enter Try.func6, Try.ntmps6
    go_wp2
    go_returns
    exact ⟨rfl, rfl⟩
  · have h1 : 1024 < n := by omega
    have z3 : decide (n < 1) = false := decide_eq_false h0
    go_enter Try.func6, Try.ntmps6
    go_wp2
    go_returns
    exact ⟨rfl, rfl⟩
end Go.Proofs.Ytgpbgakijjdkoaa.TI
