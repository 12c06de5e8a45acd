/-
  MulDiv, Ceil and both Compares, as numbers.
  Conditions: each number is a word.
-/
import Derived.Test.YtanchjcifhbllaaKnuth
set_option linter.unusedVariables false
namespace Go.Proofs.Ytanchjcifhbllaa
open Go.RowKit

def qOf (n y : Nat) : Nat := n / y
def rOf (n y : Nat) : Nat := n % y
theorem qOf_lt {n y : Nat} (h : hiOf n < y) : qOf n y < 18446744073709551616 := by
  unfold qOf hiOf at *
  rw [Nat.div_lt_iff_lt_mul (by omega)]
  omega
theorem rOf_lt {n y : Nat} (h : hiOf n < y) : rOf n y < y := Nat.mod_lt _ (by omega)

theorem div64_num (n y : Nat) (b2 : y < 18446744073709551616) (b3 : hiOf n < y) (w : World) :
    Calls Try.prog 65 #[.int .u64 (hiOf n), .int .u64 (loOf n), .int .u64 y] w fun e w' => e = .returned (.tuple #[.int .u64 (qOf n y), .int .u64 (rOf n y)]) ∧ Below w.heap.size w w' := by
  have e : hiOf n * 18446744073709551616 + loOf n = n := by unfold hiOf loOf; omega
  by_cases hz : hiOf n = 0
  · have := div64_low (loOf n) y (lo_lt n) b2 (by omega) w
    rw [hz, Nat.zero_mul, Nat.zero_add] at e
    rw [hz, e]
    rw [e] at this
    exact this
  · have := div64_high (hiOf n) (loOf n) y (lo_lt n) b2 b3 (by simpa using hz) w
    rw [e] at this
    exact this

set_option maxHeartbeats 1000000 in
theorem muldiv_zero (a b : Nat) (w : World) :
    Calls Try.prog 58 #[.int .u64 a, .int .u64 b, .int .u64 0] w fun e w' => e = .returned (.tuple #[.int .u64 0, .int .u64 0, .int .i64 1]) ∧ Below w.heap.size w w' := by
  go_enter Try.func58, Try.ntmps58
  go_wp2_with fail
  go_returns
  exact ⟨rfl, Below.refl _ _⟩

set_option maxHeartbeats 1000000 in
theorem muldiv_over (a b c : Nat) (b1 : a < 18446744073709551616) (b2 : b < 18446744073709551616) (hc : (c == 0) = false) (ho : c ≤ hiOf (a * b)) (w : World) :
    Calls Try.prog 58 #[.int .u64 a, .int .u64 b, .int .u64 c] w fun e w' => e = .returned (.tuple #[.int .u64 0, .int .u64 0, .int .i64 5]) ∧ Below w.heap.size w w' := by
  have hc' : ((c : Int) == 0) = false := by simpa using hc
  go_enter Try.func58, Try.ntmps58
  go_wp2_with (go_at_call 64; refine (mul64_num a b b1 b2 _).mono ?_; rintro e w1 ⟨rfl, rfl⟩)
  go_returns
  exact ⟨rfl, Below.refl _ _⟩

set_option maxHeartbeats 1000000 in
theorem muldiv_ok (a b c : Nat) (b1 : a < 18446744073709551616) (b2 : b < 18446744073709551616) (b3 : c < 18446744073709551616) (hc : (c == 0) = false) (ho : hiOf (a * b) < c) (w : World) :
    Calls Try.prog 58 #[.int .u64 a, .int .u64 b, .int .u64 c] w fun e w' => e = .returned (.tuple #[.int .u64 (qOf (a * b) c), .int .u64 (rOf (a * b) c), .int .i64 0]) ∧ Below w.heap.size w w' := by
  have hc' : ((c : Int) == 0) = false := by simpa using hc
  go_enter Try.func58, Try.ntmps58
  go_wp2_with (first
    | (go_at_call 64; refine (mul64_num a b b1 b2 _).mono ?_; rintro e w1 ⟨rfl, rfl⟩)
    | (go_at_call 65; refine (div64_num (a * b) c b3 ho _).mono ?_; rintro e w1 ⟨rfl, hb⟩))
  go_returns
  exact ⟨rfl, hb⟩

set_option maxHeartbeats 1000000 in
theorem ceil_zero (a b : Nat) (w : World) :
    Calls Try.prog 57 #[.int .u64 a, .int .u64 b, .int .u64 0] w fun e w' => e = .returned (.tuple #[.int .u64 0, .int .i64 1]) ∧ Below w.heap.size w w' := by
  go_enter Try.func57, Try.ntmps57
  go_wp2_with (go_at_call 58; refine (muldiv_zero a b _).mono ?_; rintro e w1 ⟨rfl, hb⟩)
  go_returns
  exact ⟨rfl, hb⟩

set_option maxHeartbeats 1000000 in
theorem ceil_over (a b c : Nat) (b1 : a < 18446744073709551616) (b2 : b < 18446744073709551616) (hc : (c == 0) = false) (ho : c ≤ hiOf (a * b)) (w : World) :
    Calls Try.prog 57 #[.int .u64 a, .int .u64 b, .int .u64 c] w fun e w' => e = .returned (.tuple #[.int .u64 0, .int .i64 5]) ∧ Below w.heap.size w w' := by
  go_enter Try.func57, Try.ntmps57
  go_wp2_with (go_at_call 58; refine (muldiv_over a b c b1 b2 hc ho _).mono ?_; rintro e w1 ⟨rfl, hb⟩)
  go_returns
  exact ⟨rfl, hb⟩

set_option maxHeartbeats 1000000 in
theorem ceil_whole (a b c : Nat) (b1 : a < 18446744073709551616) (b2 : b < 18446744073709551616) (b3 : c < 18446744073709551616) (hc : (c == 0) = false) (ho : hiOf (a * b) < c) (hr : ((rOf (a * b) c : Int) == 0) = true) (w : World) :
    Calls Try.prog 57 #[.int .u64 a, .int .u64 b, .int .u64 c] w fun e w' => e = .returned (.tuple #[.int .u64 (qOf (a * b) c), .int .i64 0]) ∧ Below w.heap.size w w' := by
  go_enter Try.func57, Try.ntmps57
  go_wp2_with (go_at_call 58; refine (muldiv_ok a b c b1 b2 b3 hc ho _).mono ?_; rintro e w1 ⟨rfl, hb⟩)
  go_returns
  exact ⟨rfl, hb⟩

set_option maxHeartbeats 1000000 in
theorem ceil_most (a b c : Nat) (b1 : a < 18446744073709551616) (b2 : b < 18446744073709551616) (b3 : c < 18446744073709551616) (hc : (c == 0) = false) (ho : hiOf (a * b) < c) (hr : ((rOf (a * b) c : Int) == 0) = false) (hq : ((qOf (a * b) c : Int) == 18446744073709551615) = true) (w : World) :
    Calls Try.prog 57 #[.int .u64 a, .int .u64 b, .int .u64 c] w fun e w' => e = .returned (.tuple #[.int .u64 0, .int .i64 5]) ∧ Below w.heap.size w w' := by
  go_enter Try.func57, Try.ntmps57
  go_wp2_with (go_at_call 58; refine (muldiv_ok a b c b1 b2 b3 hc ho _).mono ?_; rintro e w1 ⟨rfl, hb⟩)
  go_returns
  exact ⟨rfl, hb⟩

set_option maxHeartbeats 1000000 in
theorem ceil_up (a b c : Nat) (b1 : a < 18446744073709551616) (b2 : b < 18446744073709551616) (b3 : c < 18446744073709551616) (hc : (c == 0) = false) (ho : hiOf (a * b) < c) (hr : ((rOf (a * b) c : Int) == 0) = false) (hq : ((qOf (a * b) c : Int) == 18446744073709551615) = false) (hq2 : qOf (a * b) c < 18446744073709551615) (w : World) :
    Calls Try.prog 57 #[.int .u64 a, .int .u64 b, .int .u64 c] w fun e w' => e = .returned (.tuple #[.int .u64 ((qOf (a * b) c : Int) + 1), .int .i64 0]) ∧ Below w.heap.size w w' := by
  go_enter Try.func57, Try.ntmps57
  go_wp2_with (go_at_call 58; refine (muldiv_ok a b c b1 b2 b3 hc ho _).mono ?_; rintro e w1 ⟨rfl, hb⟩)
  go_returns
  exact ⟨rfl, hb⟩

/-- -1, 0 or 1. -/
def cmpN (x y : Nat) : Int := if x < y then -1 else if x = y then 0 else 1

set_option maxHeartbeats 1000000 in
theorem cmp_num (x y : Nat) (b1 : x < 18446744073709551616) (b2 : y < 18446744073709551616) (w : World) :
    Calls Try.prog 68 #[.int .u64 x, .int .u64 y] w fun e w' => e = .returned (.int .i64 (cmpN x y)) ∧ w = w' := by
  by_cases h1 : x < y
  · have e : cmpN x y = -1 := by unfold cmpN; rw [if_pos h1]
    rw [e]
    go_enter Try.func68, Try.ntmps68
    go_wp2
    go_returns
    exact ⟨rfl, rfl⟩
  · by_cases h2 : x = y
    · have e : cmpN x y = 0 := by unfold cmpN; rw [if_neg h1, if_pos h2]
      rw [e]
      subst h2
      go_enter Try.func68, Try.ntmps68
      go_wp2
      go_returns
      exact ⟨rfl, rfl⟩
    · have e : cmpN x y = 1 := by unfold cmpN; rw [if_neg h1, if_neg h2]
      rw [e]
      go_enter Try.func68, Try.ntmps68
      go_wp2
      go_returns
      exact ⟨rfl, rfl⟩
end Go.Proofs.Ytanchjcifhbllaa
