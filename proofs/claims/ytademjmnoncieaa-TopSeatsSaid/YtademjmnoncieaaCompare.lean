/-
  Both Compares, as numbers.
  Conditions: each number is a word, and no divisor is 0.
-/
import Derived.Test.YtademjmnoncieaaFuncs
set_option linter.unusedVariables false
namespace Go.Proofs.Ytademjmnoncieaa
open Go.RowKit

theorem cmp_high {x y : Nat} (h : hiOf x ≠ hiOf y) : cmpN (hiOf x) (hiOf y) = cmpN x y := by
  unfold cmpN
  by_cases h1 : hiOf x < hiOf y
  · have h2 : x < y := by unfold hiOf at *; omega
    rw [if_pos h1, if_pos h2]
  · have h2 : ¬ x < y := by unfold hiOf at *; omega
    have h3 : x ≠ y := fun e => h (by rw [e])
    rw [if_neg h1, if_neg h2, if_neg h, if_neg h3]

theorem cmp_low {x y : Nat} (h : hiOf x = hiOf y) : cmpN (loOf x) (loOf y) = cmpN x y := by
  unfold cmpN
  have h1 : loOf x < loOf y ↔ x < y := by unfold hiOf loOf at *; omega
  have h2 : loOf x = loOf y ↔ x = y := by unfold hiOf loOf at *; omega
  simp only [h1, h2]

theorem cmp_zero {x y : Nat} (h : hiOf x = hiOf y) (h2 : loOf x = loOf y) : cmpN x y = 0 := by
  have e : x = y := by unfold hiOf loOf at *; omega
  unfold cmpN
  rw [if_neg (by omega), if_pos e]
theorem cmp_less {x y : Nat} (h : hiOf x < hiOf y ∨ hiOf x = hiOf y ∧ loOf x < loOf y) : cmpN x y = -1 := by
  have e : x < y := by unfold hiOf loOf at *; omega
  unfold cmpN
  rw [if_pos e]
theorem cmp_more {x y : Nat} (h : hiOf y < hiOf x ∨ hiOf x = hiOf y ∧ loOf y < loOf x) : cmpN x y = 1 := by
  have e : y < x := by unfold hiOf loOf at *; omega
  unfold cmpN
  rw [if_neg (by omega), if_neg (by omega)]

set_option maxHeartbeats 1000000 in
theorem compare_ok (a b c d : Nat) (b1 : a < 18446744073709551616) (b2 : b < 18446744073709551616) (b3 : c < 18446744073709551616) (b4 : d < 18446744073709551616) (hb : (b == 0) = false) (hd : (d == 0) = false) (w : World) :
    Calls Try.prog 33 #[.int .u64 a, .int .u64 b, .int .u64 c, .int .u64 d] w fun e w' => e = .returned (.tuple #[.int .i64 (cmpN (a * d) (c * b)), .int .i64 0]) ∧ w = w' := by
  have hb' : ((b : Int) == 0) = false := by simpa using hb
  have hd' : ((d : Int) == 0) = false := by simpa using hd
  have l1 := hi_lt (mul_lt128 b1 b4)
  have l2 := hi_lt (mul_lt128 b3 b2)
  have l3 := lo_lt (a * d)
  have l4 := lo_lt (c * b)
  by_cases hh : hiOf (a * d) = hiOf (c * b)
  · rw [← cmp_low hh]
    have ht : ((hiOf (a * d) : Int) != (hiOf (c * b) : Int)) = false := by rw [hh]; simp
    go_enter Try.func33, Try.ntmps33
    go_wp2_with (first
      | (go_at_call 41; have hx := HM1; clear hx; refine (mul64_num c b b3 b2 _).mono ?_; rintro e w1 ⟨rfl, rfl⟩)
      | (go_at_call 41; refine (mul64_num a d b1 b4 _).mono ?_; rintro e w1 ⟨rfl, rfl⟩; have HM1 := Lib.hid b1)
      | (go_at_call 42; refine (cmp_num _ _ l3 l4 _).mono ?_; rintro e w1 ⟨rfl, rfl⟩))
    go_returns
    exact ⟨rfl, rfl⟩
  · rw [← cmp_high hh]
    have ht : ((hiOf (a * d) : Int) != (hiOf (c * b) : Int)) = true := by simp; omega
    go_enter Try.func33, Try.ntmps33
    go_wp2_with (first
      | (go_at_call 41; have hx := HM1; clear hx; refine (mul64_num c b b3 b2 _).mono ?_; rintro e w1 ⟨rfl, rfl⟩)
      | (go_at_call 41; refine (mul64_num a d b1 b4 _).mono ?_; rintro e w1 ⟨rfl, rfl⟩; have HM1 := Lib.hid b1)
      | (go_at_call 42; refine (cmp_num _ _ l1 l2 _).mono ?_; rintro e w1 ⟨rfl, rfl⟩))
    go_returns
    exact ⟨rfl, rfl⟩

set_option maxHeartbeats 1000000 in
theorem compare_arg (a b c d : Nat) (h : b = 0 ∨ ((b == 0) = false ∧ d = 0)) (w : World) :
    Calls Try.prog 33 #[.int .u64 a, .int .u64 b, .int .u64 c, .int .u64 d] w fun e w' => e = .returned (.tuple #[.int .i64 0, .int .i64 1]) ∧ w = w' := by
  rcases h with rfl | ⟨hb, rfl⟩
  · go_enter Try.func33, Try.ntmps33
    go_wp2_with fail
    go_returns
    exact ⟨rfl, rfl⟩
  · have hb' : ((b : Int) == 0) = false := by simpa using hb
    go_enter Try.func33, Try.ntmps33
    go_wp2_with fail
    go_returns
    exact ⟨rfl, rfl⟩

set_option maxHeartbeats 4000000 in
theorem refCompare_any (a b c d : Nat) (b1 : a < 18446744073709551616) (b2 : b < 18446744073709551616) (b3 : c < 18446744073709551616) (b4 : d < 18446744073709551616) (w : World) :
    Calls Try.prog 19 #[.int .u64 a, .int .u64 b, .int .u64 c, .int .u64 d] w fun e w' => e = .returned (.int .i64 (cmpN (a * d) (c * b))) ∧ Below w.heap.size w w' := by
  go_enter Try.func19, Try.ntmps19
  go_wp2_with (first
    | (go_at_call 28; have hx := HB1; clear hx; refine (times_num c b b3 b2 _).mono ?_; rintro e w2 ⟨rfl, hb2⟩; have HB2 := Lib.hid hb2; have k2 := K1.out.later hb2; clear hb2; obtain ⟨d0, d1, f0, f1⟩ := k2.cells; have sz2 := k2.lt)
    | (go_at_call 28; refine (times_num a d b1 b4 _).mono ?_; rintro e w1 ⟨rfl, hb1⟩; have HB1 := Lib.hid hb1; clear hb1; have K1 := Lib.hid (wideAt_new w1 w1.heap.size (hiOf (a * d)) (loOf (a * d)) rfl)))
  all_goals go_returns
  all_goals
    have B1 : Below w.heap.size w (w1.alloc (.cells #[.int .u64 (hiOf (a * d)), .int .u64 (loOf (a * d))] 66)) := HB1.out.alloc HB1.out.size _
    have B2 : Below w.heap.size w w2 := B1.trans (HB2.out.mono B1.size)
    have B3 : Below w.heap.size w (w2.alloc (.cells #[.int .u64 (hiOf (c * b)), .int .u64 (loOf (c * b))] 66)) := B2.alloc B2.size _
    first
      | (have e := cmp_zero (x := a * d) (y := c * b) (by omega) (by omega); rw [e]; exact ⟨rfl, B3⟩)
      | (have e := cmp_less (x := a * d) (y := c * b) (by omega); rw [e]; exact ⟨rfl, B3⟩)
      | (have e := cmp_more (x := a * d) (y := c * b) (by omega); rw [e]; exact ⟨rfl, B3⟩)
end Go.Proofs.Ytademjmnoncieaa
