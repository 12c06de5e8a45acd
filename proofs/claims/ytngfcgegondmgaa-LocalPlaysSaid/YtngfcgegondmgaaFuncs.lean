/-
  MulDiv, Ceil and both Compares, as numbers.
  Conditions: each number is a word.
-/
import Derived.Test.YtngfcgegondmgaaTimes
set_option linter.unusedVariables false
namespace Go.Proofs.Ytngfcgegondmgaa
open Go.RowKit

def qOf (n y : Nat) : Nat := n / y
def rOf (n y : Nat) : Nat := n % y
theorem qOf_lt {n y : Nat} (h : hiOf n < y) : qOf n y < 18446744073709551616 := by
  unfold qOf hiOf at *
  rw [Nat.div_lt_iff_lt_mul (by omega)]
  omega
theorem rOf_lt {n y : Nat} (h : hiOf n < y) : rOf n y < y := Nat.mod_lt _ (by omega)

/-- -1, 0 or 1. -/
def cmpN (x y : Nat) : Int := if x < y then -1 else if x = y then 0 else 1

set_option maxHeartbeats 1000000 in
theorem cmp_num (x y : Nat) (b1 : x < 18446744073709551616) (b2 : y < 18446744073709551616) (w : World) :
    Calls Try.prog 70 #[.int .u64 x, .int .u64 y] w fun e w' => e = .returned (.int .i64 (cmpN x y)) ∧ w = w' := by
  by_cases h1 : x < y
  · have e : cmpN x y = -1 := by unfold cmpN; rw [if_pos h1]
    rw [e]
    go_enter Try.func70, Try.ntmps70
    go_wp2
    go_returns
    exact ⟨rfl, rfl⟩
  · by_cases h2 : x = y
    · have e : cmpN x y = 0 := by unfold cmpN; rw [if_neg h1, if_pos h2]
      rw [e]
      subst h2
      go_enter Try.func70, Try.ntmps70
      go_wp2
      go_returns
      exact ⟨rfl, rfl⟩
    · have e : cmpN x y = 1 := by unfold cmpN; rw [if_neg h1, if_neg h2]
      rw [e]
      go_enter Try.func70, Try.ntmps70
      go_wp2
      go_returns
      exact ⟨rfl, rfl⟩
end Go.Proofs.Ytngfcgegondmgaa
