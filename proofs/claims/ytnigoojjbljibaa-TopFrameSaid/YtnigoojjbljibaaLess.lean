/-
  The comparison that greatestFirst hands to the sort.
  Conditions: the box holds the numbers.
-/
import Derived.Test.YtnigoojjbljibaaSwaps
set_option linter.unusedVariables false
namespace Go.Proofs.Ytnigoojjbljibaa
open Go.RowKit

def cmpI (p q : Int) : Int := if p < q then -1 else if q < p then 1 else 0
theorem cmpI_neg {p q : Int} : cmpI p q < 0 ↔ p < q := by
  unfold cmpI
  by_cases h1 : p < q
  · rw [if_pos h1]; omega
  · rw [if_neg h1]
    by_cases h2 : q < p
    · rw [if_pos h2]; omega
    · rw [if_neg h2]; omega

theorem isNaN_any (a : Int) (w : World) : Calls Try.prog 24 #[.int .i64 a] w (Ret (.bool false) w) := by
  have h : (a != a) = false := by simp
  go_enter Try.func24, Try.ntmps24
  go_wp2
  go_ret
  exact ⟨rfl, rfl⟩

theorem compareInt_any (p q : Int) (w : World) : Calls Try.prog 20 #[.int .i64 p, .int .i64 q] w (Ret (.int .i64 (cmpI p q)) w) := by
  by_cases h1 : p < q
  · have e : Hid (cmpI p q = -1) := by show _ = _; unfold cmpI; rw [if_pos h1]
    go_enter Try.func20, Try.ntmps20
    go_wp2_with (go_at_call 24; refine (isNaN_any _ _).mono ?_; rintro e w' ⟨rfl, rfl⟩)
    go_ret
    exact ⟨ret_int e.out.symm, rfl⟩
  · have h1' : q ≤ p := by omega
    by_cases h2 : q < p
    · have e : Hid (cmpI p q = 1) := by show _ = _; unfold cmpI; rw [if_neg h1, if_pos h2]
      clear h1
      go_enter Try.func20, Try.ntmps20
      go_wp2_with (go_at_call 24; refine (isNaN_any _ _).mono ?_; rintro e w' ⟨rfl, rfl⟩)
      go_ret
      exact ⟨ret_int e.out.symm, rfl⟩
    · have h2' : p ≤ q := by omega
      have e : Hid (cmpI p q = 0) := by show _ = _; unfold cmpI; rw [if_neg h1, if_neg h2]
      clear h1 h2
      go_enter Try.func20, Try.ntmps20
      go_wp2_with (go_at_call 24; refine (isNaN_any _ _).mono ?_; rintro e w' ⟨rfl, rfl⟩)
      go_ret
      exact ⟨ret_int e.out.symm, rfl⟩

/-- The comparison answers by keys, in every world of the sort's. -/
def CmpOk (W0 : World) (g n : Nat) (cb : Value) (key : Nat → Int) : Prop := ∀ W, Below g W0 W → ∀ x y : Nat, x < n → y < n →
  Calls Try.prog 19 #[.int .i64 x, .int .i64 y, cb] W fun e w' => e = .returned (.int .i64 (cmpI (key y) (key x))) ∧ ∃ q, w' = W.drewN q

set_option maxHeartbeats 1000000 in
theorem less_ok (W0 : World) (bx : Nat) (v : Value) (xs : List Int) (hbx : bx < W0.heap.size) (hc : W0.cell? ⟨bx, 0, none⟩ = some v) (hi : IntsAt W0 v xs) (hn : xs.length ≤ 64) :
    CmpOk W0 W0.heap.size xs.length (.pointer (some ⟨bx, 0, none⟩)) (fun i => xs.getD i 0) := by
  intro W hbw x y hx hy
  have hbox : W.cell? ⟨bx, 0, none⟩ = some v := (hbw.cell (p := ⟨bx, 0, none⟩) hbx).trans hc
  obtain ⟨A, c, rfl, hl, hat⟩ := hi.keep hbw
  obtain ⟨b, off, rfl, hb, hcell⟩ := hat (by omega)
  obtain ⟨p, hp⟩ := ex_at hx
  obtain ⟨q, hq⟩ := ex_at hy
  have c1 := hcell x p hp
  have c2 := hcell y q hq
  have e : Hid (cmpI (xs.getD y 0) (xs.getD x 0) = cmpI q p) := by show _ = _; rw [getD_of hp, getD_of hq]
  clear hcell hp hq hat hc hbw
  go_enter Try.func19, Try.ntmps19
  go_wp2_with fail
  go_quiet ((go_at_call 20; exact quiet_ret (compareInt_any _ _ _)))
  go_wp2_with fail
  go_ret
  exact ⟨ret_int e.out.symm, nq, rfl⟩
end Go.Proofs.Ytnigoojjbljibaa
