/-
  The reference's long division, bit by bit, is the division.
  Conditions: each half is below 2^64, the divisor is a word and not 0.
-/
import Derived.Test.YtanchjcifhbllaaTimes
import Derived.BigQuiet
set_option linter.unusedVariables false
namespace Go.Proofs.Ytanchjcifhbllaa
open Go.RowKit

theorem bit_high (n k : Nat) (b1 : n < 340282366920938463463374607431768211456) (hk : 64 ≤ k) : bits BinOp.and IntKind.u64 ((hiOf n : Int) / 2 ^ (k - 64)) 1 = ((n / 2 ^ k % 2 : Nat) : Int) := by
  have e0 : (hiOf n : Int) / 2 ^ (k - 64) = ((hiOf n / 2 ^ (k - 64) : Nat) : Int) := by simp
  have e1 := bits_and_u64_nat (hiOf n / 2 ^ (k - 64)) 1 (Nat.lt_of_le_of_lt (Nat.div_le_self _ _) (hi_lt b1)) (by decide)
  rw [Nat.and_one_is_mod] at e1
  have e3 : hiOf n / 2 ^ (k - 64) = n / 2 ^ k := by
    show n / 2 ^ 64 / 2 ^ (k - 64) = _
    rw [Nat.div_div_eq_div_mul, ← Nat.pow_add]
    congr 2
    omega
  rw [e3] at e1 e0
  rw [e0]
  exact e1

theorem bit_low (n k : Nat) (hk : ¬64 ≤ k) : bits BinOp.and IntKind.u64 ((loOf n : Int) / 2 ^ (k % 64)) 1 = ((n / 2 ^ k % 2 : Nat) : Int) := by
  have e0 : (loOf n : Int) / 2 ^ (k % 64) = ((loOf n / 2 ^ (k % 64) : Nat) : Int) := by simp
  have e1 := bits_and_u64_nat (loOf n / 2 ^ (k % 64)) 1 (Nat.lt_of_le_of_lt (Nat.div_le_self _ _) (lo_lt n)) (by decide)
  rw [Nat.and_one_is_mod] at e1
  have e3 : loOf n / 2 ^ (k % 64) % 2 = n / 2 ^ k % 2 := by
    have h1 : k % 64 = k := Nat.mod_eq_of_lt (by omega)
    rw [h1]
    have h2 : (loOf n).testBit k = n.testBit k := by
      show (n % 2 ^ 64).testBit k = _
      rw [Nat.testBit_mod_two_pow]
      simp
      omega
    rw [Nat.testBit_eq_decide_div_mod_eq, Nat.testBit_eq_decide_div_mod_eq, decide_eq_decide] at h2
    omega
  rw [e3] at e1
  rw [e0]
  exact e1

theorem div_two {n k c q r bt : Nat} (hc : 0 < c) (hr : r = n / 2 ^ (k + 1) % c) (hq : q = n / 2 ^ (k + 1) / c) (hbt : bt = n / 2 ^ k % 2) : n / 2 ^ k = c * (2 * q) + (2 * r + bt) ∧ r < c ∧ bt < 2 := by
  have h1 := half_step n k
  have h2 := Nat.div_add_mod (n / 2 ^ (k + 1)) c
  rw [← hr, ← hq] at h2
  refine ⟨?_, by rw [hr]; exact Nat.mod_lt _ hc, by omega⟩
  rw [h1, ← hbt, ← h2, Nat.mul_left_comm]
  omega

theorem div_less {P c q s : Nat} (h : P = c * (2 * q) + s) (hs : s < c) : P % c = s ∧ P / c = 2 * q := by
  have := (Nat.div_mod_unique (a := P) (b := c) (c := s) (d := 2 * q) (by omega)).2 ⟨by omega, hs⟩
  exact ⟨this.2, this.1⟩

theorem div_more {P c q s : Nat} (h : P = c * (2 * q) + s) (h1 : c ≤ s) (h2 : s < 2 * c) : P % c = s - c ∧ P / c = 2 * q + 1 := by
  have e : c * (2 * q + 1) = c * (2 * q) + c := by rw [Nat.mul_add, Nat.mul_one]
  have := (Nat.div_mod_unique (a := P) (b := c) (c := s - c) (d := 2 * q + 1) (by omega)).2 ⟨by omega, by omega⟩
  exact ⟨this.2, this.1⟩

theorem even_lo {q h l : Nat} (k : IsWide ((2 * q + 0) % 340282366920938463463374607431768211456) h l) : l + 1 < 18446744073709551616 := by
  obtain ⟨a, b, c⟩ := k
  omega

theorem below_drewN {B : Nat} {a w : World} (h : Below B a w) (n : Nat) : Below B a (w.drewN n) := ⟨h.os, h.tape, h.output, h.size, h.block⟩
end Go.Proofs.Ytanchjcifhbllaa
