/-
  The page's examples, run.
-/
import Derived.Test.YthpainpeieapfaaSums
set_option linter.unusedVariables false
namespace Go.Proofs.Ythpainpeieapfaa
open Go.RowKit

/-- What a law comes to. -/
def Ans (w : World) (e : Ending) (w' : World) : Prop := e = .returned (.bool true) ∧ Below w.heap.size w w'

theorem ex_muldiv (w : World) : Calls Try.prog 17 #[.int .u64 9223372036854775808, .int .u64 6, .int .u64 4] w fun e w' => e = .returned (.tuple #[.int .u64 13835058055282163712, .int .u64 0, .int .i64 0]) ∧ Below w.heap.size w w' := by
  have h := muldiv_ok 9223372036854775808 6 4 (by decide) (by decide) (by decide) rfl (by decide +kernel) w
  have e1 : qOf (9223372036854775808 * 6) 4 = 13835058055282163712 := by decide +kernel
  have e2 : rOf (9223372036854775808 * 6) 4 = 0 := by decide +kernel
  rw [e1, e2] at h
  exact h
theorem ex_ceil (w : World) : Calls Try.prog 18 #[.int .u64 7, .int .u64 3, .int .u64 4] w fun e w' => e = .returned (.tuple #[.int .u64 6, .int .i64 0]) ∧ Below w.heap.size w w' := by
  have e1 : qOf (7 * 3) 4 = 5 := by decide +kernel
  have e2 : rOf (7 * 3) 4 = 1 := by decide +kernel
  have h := ceil_up 7 3 4 (by decide) (by decide) (by decide) rfl (by decide +kernel) (by rw [e2]; rfl) (by rw [e1]; rfl) (by rw [e1]; decide) w
  rw [e1] at h
  exact h
theorem ex_compare (w : World) : Calls Try.prog 22 #[.int .u64 1, .int .u64 3, .int .u64 2, .int .u64 6] w fun e w' => e = .returned (.tuple #[.int .i64 0, .int .i64 0]) ∧ w = w' := by
  have h := compare_ok 1 3 2 6 (by decide) (by decide) (by decide) (by decide) rfl rfl w
  have e1 : cmpN (1 * 6) (2 * 3) = 0 := by decide +kernel
  rw [e1] at h
  exact h
theorem ex_gcd (w : World) : Calls Try.prog 26 #[.int .u64 12, .int .u64 18] w fun e w' => e = .returned (.int .u64 6) ∧ Below w.heap.size w w' := by
  have h := gcd_any 12 18 (by decide) (by decide) w
  have e1 : gOf 12 18 = 6 := by decide +kernel
  rw [e1] at h
  exact h

set_option maxHeartbeats 1000000 in
theorem awake_any (w : World) : Calls Try.prog 14 #[] w (Ans w) := by
  go_enter Try.func14, Try.ntmps14
  go_wp2_with (first
    | (go_at_call 17; refine (ex_muldiv _).mono ?_; rintro e w1 ⟨rfl, hb1⟩; have HB1 := Lib.hid hb1; clear hb1)
    | (go_at_call 18; refine (ex_ceil _).mono ?_; rintro e w2 ⟨rfl, hb2⟩; have HB2 := Lib.hid (HB1.out.trans (hb2.mono HB1.out.size)); clear hb2)
    | (go_at_call 22; refine (ex_compare _).mono ?_; rintro e w3 ⟨rfl, rfl⟩)
    | (go_at_call 26; refine (ex_gcd _).mono ?_; rintro e w4 ⟨rfl, hb4⟩; have HB4 := Lib.hid (HB2.out.trans (hb4.mono HB2.out.size)); clear hb4))
  go_returns
  exact ⟨rfl, HB4.out⟩

def told_arm : Unit := ()

set_option maxHeartbeats 1000000 in
theorem adds_any (a b : Int) (a1 : -9223372036854775808 ≤ a) (a2 : a ≤ 9223372036854775807) (b1 : -9223372036854775808 ≤ b) (b2 : b ≤ 9223372036854775807) (w : World) :
    Calls Try.prog 3 #[.int .i64 a, .int .i64 b] w (Ans w) := by
  have hadd : (9223372036854775807 < a + b ∨ a + b < -9223372036854775808) ∨ (-9223372036854775808 ≤ a + b ∧ a + b ≤ 9223372036854775807) := by omega
  have hsub : (9223372036854775807 < a - b ∨ a - b < -9223372036854775808) ∨ (-9223372036854775808 ≤ a - b ∧ a - b ≤ 9223372036854775807) := by omega
  have HA : Hid (∃ x e ok, (∀ W, Calls Try.prog 9 #[.int .i64 a, .int .i64 b] W fun r w' => r = .returned (.tuple #[.int .i64 x, .int .i64 e]) ∧ W = w') ∧ (∀ W, Calls Try.prog 10 #[.int .i64 a, .int .i64 b] W fun r w' => r = .returned (.tuple #[.int .i64 x, .bool ok]) ∧ W = w') ∧
      (∀ W, Calls Try.prog 13 #[.int .i64 x, .int .i64 e, .int .i64 x, .bool ok] W fun r w' => r = .returned (.bool true) ∧ W = w')) := by
    rcases hadd with h | ⟨h1, h2⟩
    · exact ⟨0, 5, false, add_over a b a1 a2 b1 b2 h, refAdd_over a b a1 a2 b1 b2 h, told_false 0⟩
    · exact ⟨a + b, 0, true, add_fits a b a1 a2 b1 b2 h1 h2, refAdd_fits a b a1 a2 b1 b2 h1 h2, told_true _⟩
  have HS : Hid (∃ x e ok, (∀ W, Calls Try.prog 11 #[.int .i64 a, .int .i64 b] W fun r w' => r = .returned (.tuple #[.int .i64 x, .int .i64 e]) ∧ W = w') ∧ (∀ W, Calls Try.prog 12 #[.int .i64 a, .int .i64 b] W fun r w' => r = .returned (.tuple #[.int .i64 x, .bool ok]) ∧ W = w') ∧
      (∀ W, Calls Try.prog 13 #[.int .i64 x, .int .i64 e, .int .i64 x, .bool ok] W fun r w' => r = .returned (.bool true) ∧ W = w')) := by
    rcases hsub with h | ⟨h1, h2⟩
    · exact ⟨0, 5, false, sub_over a b a1 a2 b1 b2 h, refSub_over a b a1 a2 b1 b2 h, told_false 0⟩
    · exact ⟨a - b, 0, true, sub_fits a b a1 a2 b1 b2 h1 h2, refSub_fits a b a1 a2 b1 b2 h1 h2, told_true _⟩
  obtain ⟨x, e, ok, A1, A2, A3⟩ := HA.out
  obtain ⟨y, f, is, S1, S2, S3⟩ := HS.out
  have A1 := Lib.hid A1
  have A2 := Lib.hid A2
  have A3 := Lib.hid A3
  have S1 := Lib.hid S1
  have S2 := Lib.hid S2
  have S3 := Lib.hid S3
  go_enter Try.func3, Try.ntmps3
  go_wp2_with (first
    | (go_at_call 9; refine (A1.out _).mono ?_; rintro e w1 ⟨rfl, rfl⟩)
    | (go_at_call 10; refine (A2.out _).mono ?_; rintro e w1 ⟨rfl, rfl⟩)
    | (go_at_call 11; refine (S1.out _).mono ?_; rintro e w1 ⟨rfl, rfl⟩)
    | (go_at_call 12; refine (S2.out _).mono ?_; rintro e w1 ⟨rfl, rfl⟩)
    | (go_at_call 13; have hx := HT1; clear hx; refine (S3.out _).mono ?_; rintro e w1 ⟨rfl, rfl⟩)
    | (go_at_call 13; refine (A3.out _).mono ?_; rintro e w1 ⟨rfl, rfl⟩; have HT1 := Lib.hid a1)
    | (go_at_call 14; refine (awake_any _).mono ?_; rintro e w1 ⟨rfl, hb⟩))
  go_returns
  exact ⟨rfl, hb⟩
end Go.Proofs.Ythpainpeieapfaa
