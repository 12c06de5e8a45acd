/-
  Times: the product of two words, bit by bit, is the product.
  Conditions: both are below 2^64.
-/
import Derived.Test.YtngfcgegondmgaaWide
import Derived.Deep.LoopGhost
set_option linter.unusedVariables false
namespace Go.Proofs.Ytngfcgegondmgaa
open Go.RowKit

theorem half_step (b k : Nat) : b / 2 ^ k = 2 * (b / 2 ^ (k + 1)) + b / 2 ^ k % 2 := by
  have e : b / 2 ^ (k + 1) = b / 2 ^ k / 2 := by rw [Nat.pow_succ, Nat.div_div_eq_div_mul]
  omega

theorem prod_lt (a b k : Nat) (b1 : a < 18446744073709551616) (b2 : b < 18446744073709551616) : a * (b / 2 ^ k) < 340282366920938463463374607431768211456 := by
  have h1 : a * (b / 2 ^ k) ≤ 18446744073709551615 * 18446744073709551615 := Nat.mul_le_mul (by omega) (Nat.le_trans (Nat.div_le_self _ _) (by omega))
  omega

theorem bit_test (b k : Nat) (b2 : b < 18446744073709551616) : (bits BinOp.and IntKind.u64 ((b : Int) / 2 ^ k) 1 == 1) = decide (b / 2 ^ k % 2 = 1) := by
  have e0 : (b : Int) / 2 ^ k = ((b / 2 ^ k : Nat) : Int) := by simp
  have e1 := bits_and_u64_nat (b / 2 ^ k) 1 (Nat.lt_of_le_of_lt (Nat.div_le_self _ _) b2) (by decide)
  have e2 : (b / 2 ^ k) &&& 1 = (b / 2 ^ k) % 2 := Nat.and_one_is_mod _
  rw [e0]
  rw [e2] at e1
  rw [show ((1 : Nat) : Int) = 1 from rfl] at e1
  rw [e1, Bool.eq_iff_iff]
  simp
  omega

theorem times_one {a b k : Nat} (HD : b / 2 ^ k = 2 * (b / 2 ^ (k + 1)) + b / 2 ^ k % 2) (HL : a * (b / 2 ^ k) < 340282366920938463463374607431768211456) (HT : b / 2 ^ k % 2 = 1) :
    ((2 * (a * (b / 2 ^ (k + 1))) + 0) % 340282366920938463463374607431768211456 + a) % 340282366920938463463374607431768211456 = a * (b / 2 ^ k) := by
  have e : a * (b / 2 ^ k) = 2 * (a * (b / 2 ^ (k + 1))) + a := by
    generalize b / 2 ^ k = y at *
    generalize b / 2 ^ (k + 1) = x at *
    rw [HD, HT, Nat.mul_add, Nat.mul_one, Nat.mul_left_comm]
  omega

theorem times_none {a b k : Nat} (HD : b / 2 ^ k = 2 * (b / 2 ^ (k + 1)) + b / 2 ^ k % 2) (HL : a * (b / 2 ^ k) < 340282366920938463463374607431768211456) (HT : ¬b / 2 ^ k % 2 = 1) :
    (2 * (a * (b / 2 ^ (k + 1))) + 0) % 340282366920938463463374607431768211456 = a * (b / 2 ^ k) := by
  have e : a * (b / 2 ^ k) = 2 * (a * (b / 2 ^ (k + 1))) := by
    generalize b / 2 ^ k = y at *
    generalize b / 2 ^ (k + 1) = x at *
    have : y = 2 * x := by omega
    rw [this, Nat.mul_left_comm]
  omega

def hiOf (n : Nat) : Nat := n / 18446744073709551616
def loOf (n : Nat) : Nat := n % 18446744073709551616
theorem hi_lt {n : Nat} (h : n < 340282366920938463463374607431768211456) : hiOf n < 18446744073709551616 := by unfold hiOf; omega
theorem lo_lt (n : Nat) : loOf n < 18446744073709551616 := Nat.mod_lt _ (by decide)
theorem isWide_of {n : Nat} (h : n < 340282366920938463463374607431768211456) : IsWide n (hiOf n) (loOf n) := ⟨hi_lt h, lo_lt n, by unfold hiOf loOf; omega⟩
theorem isWide_hi {n h l : Nat} (k : IsWide n h l) : h = hiOf n := by obtain ⟨a, b, c⟩ := k; unfold hiOf; omega
theorem isWide_lo {n h l : Nat} (k : IsWide n h l) : l = loOf n := by obtain ⟨a, b, c⟩ := k; unfold loOf; omega
theorem mul_lt128 {a b : Nat} (b1 : a < 18446744073709551616) (b2 : b < 18446744073709551616) : a * b < 340282366920938463463374607431768211456 := by
  have := prod_lt a b 0 b1 b2
  simpa using this

theorem mul64_num (a b : Nat) (b1 : a < 18446744073709551616) (b2 : b < 18446744073709551616) (w : World) :
    Calls Try.prog 69 #[.int .u64 a, .int .u64 b] w fun e w' => e = .returned (.tuple #[.int .u64 (hiOf (a * b)), .int .u64 (loOf (a * b))]) ∧ w = w' := (Try.bits_Mul64 a b b1 b2 w).mono fun _ _ h => ⟨h.1, h.2.symm⟩
end Go.Proofs.Ytngfcgegondmgaa
