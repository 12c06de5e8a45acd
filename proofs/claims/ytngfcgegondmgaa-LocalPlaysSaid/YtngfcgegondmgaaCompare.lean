/-
  Both Compares, as numbers.
  Conditions: each number is a word, and no divisor is 0.
-/
import Derived.Test.YtngfcgegondmgaaFuncs
set_option linter.unusedVariables false
namespace Go.Proofs.Ytngfcgegondmgaa
open Go.RowKit

theorem cmp_high {x y : Nat} (h : hiOf x ≠ hiOf y) : cmpN (hiOf x) (hiOf y) = cmpN x y := by
  unfold cmpN
  by_cases h1 : hiOf x < hiOf y
  · have h2 : x < y := by unfold hiOf at *; omega
    rw [if_pos h1, if_pos h2]
  · have h2 : ¬ x < y := by unfold hiOf at *; omega
    have h3 : x ≠ y := fun e => h (by rw [e])
    rw [if_neg h1, if_neg h2, if_neg h, if_neg h3]

theorem cmp_low {x y : Nat} (h : hiOf x = hiOf y) : cmpN (loOf x) (loOf y) = cmpN x y := by
  unfold cmpN
  have h1 : loOf x < loOf y ↔ x < y := by unfold hiOf loOf at *; omega
  have h2 : loOf x = loOf y ↔ x = y := by unfold hiOf loOf at *; omega
  simp only [h1, h2]

theorem cmp_zero {x y : Nat} (h : hiOf x = hiOf y) (h2 : loOf x = loOf y) : cmpN x y = 0 := by
  have e : x = y := by unfold hiOf loOf at *; omega
  unfold cmpN
  rw [if_neg (by omega), if_pos e]
theorem cmp_less {x y : Nat} (h : hiOf x < hiOf y ∨ hiOf x = hiOf y ∧ loOf x < loOf y) : cmpN x y = -1 := by
  have e : x < y := by unfold hiOf loOf at *; omega
  unfold cmpN
  rw [if_pos e]
theorem cmp_more {x y : Nat} (h : hiOf y < hiOf x ∨ hiOf x = hiOf y ∧ loOf y < loOf x) : cmpN x y = 1 := by
  have e : y < x := by unfold hiOf loOf at *; omega
  unfold cmpN
  rw [if_neg (by omega), if_neg (by omega)]

set_option maxHeartbeats 1000000 in
theorem compare_ok (a b c d : Nat) (b1 : a < 18446744073709551616) (b2 : b < 18446744073709551616) (b3 : c < 18446744073709551616) (b4 : d < 18446744073709551616) (hb : (b == 0) = false) (hd : (d == 0) = false) (w : World) :
    Calls Try.prog 62 #[.int .u64 a, .int .u64 b, .int .u64 c, .int .u64 d] w fun e w' => e = .returned (.tuple #[.int .i64 (cmpN (a * d) (c * b)), .int .i64 0]) ∧ w = w' := by
  have hb' : ((b : Int) == 0) = false := by simpa using hb
  have hd' : ((d : Int) == 0) = false := by simpa using hd
  have l1 := hi_lt (mul_lt128 b1 b4)
  have l2 := hi_lt (mul_lt128 b3 b2)
  have l3 := lo_lt (a * d)
  have l4 := lo_lt (c * b)
  by_cases hh : hiOf (a * d) = hiOf (c * b)
  · rw [← cmp_low hh]
    have ht : ((hiOf (a * d) : Int) != (hiOf (c * b) : Int)) = false := by rw [hh]; simp
    go_enter Try.func62, Try.ntmps62
    go_wp2_with (first
      | (go_at_call 69; have hx := HM1; clear hx; refine (mul64_num c b b3 b2 _).mono ?_; rintro e w1 ⟨rfl, rfl⟩)
      | (go_at_call 69; refine (mul64_num a d b1 b4 _).mono ?_; rintro e w1 ⟨rfl, rfl⟩; have HM1 := Lib.hid b1)
      | (go_at_call 70; refine (cmp_num _ _ l3 l4 _).mono ?_; rintro e w1 ⟨rfl, rfl⟩))
    go_returns
    exact ⟨rfl, rfl⟩
  · rw [← cmp_high hh]
    have ht : ((hiOf (a * d) : Int) != (hiOf (c * b) : Int)) = true := by simp; omega
    go_enter Try.func62, Try.ntmps62
    go_wp2_with (first
      | (go_at_call 69; have hx := HM1; clear hx; refine (mul64_num c b b3 b2 _).mono ?_; rintro e w1 ⟨rfl, rfl⟩)
      | (go_at_call 69; refine (mul64_num a d b1 b4 _).mono ?_; rintro e w1 ⟨rfl, rfl⟩; have HM1 := Lib.hid b1)
      | (go_at_call 70; refine (cmp_num _ _ l1 l2 _).mono ?_; rintro e w1 ⟨rfl, rfl⟩))
    go_returns
    exact ⟨rfl, rfl⟩

set_option maxHeartbeats 1000000 in
theorem compare_arg (a b c d : Nat) (h : b = 0 ∨ ((b == 0) = false ∧ d = 0)) (w : World) :
    Calls Try.prog 62 #[.int .u64 a, .int .u64 b, .int .u64 c, .int .u64 d] w fun e w' => e = .returned (.tuple #[.int .i64 0, .int .i64 1]) ∧ w = w' := by
  rcases h with rfl | ⟨hb, rfl⟩
  · go_enter Try.func62, Try.ntmps62
    go_wp2_with fail
    go_returns
    exact ⟨rfl, rfl⟩
  · have hb' : ((b : Int) == 0) = false := by simpa using hb
    go_enter Try.func62, Try.ntmps62
    go_wp2_with fail
    go_returns
    exact ⟨rfl, rfl⟩
end Go.Proofs.Ytngfcgegondmgaa
