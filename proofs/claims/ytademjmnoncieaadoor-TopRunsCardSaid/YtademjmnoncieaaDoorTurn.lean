/-
  A set that is turned; ticks from one on, round: what the program answers.
  Conditions: the numbers are of their kinds.
-/
import Derived.Test.YtademjmnoncieaaDoorPlain
set_option linter.unusedVariables false
namespace Go.Proofs.YtademjmnoncieaaDoor
open Go.RowKit

/-- Where a tick comes from. -/
def srcN (f l j : Nat) : Nat := if l ≤ j then j - l else j + f - l
def turnN (f m l : Nat) : Nat := setP (fun j => decide (j < f) && m.testBit (srcN f l j))

theorem turn_zero (m l : Nat) : turnN 0 m l = 0 := setP_zero (fun j _ => by simp)

theorem turn_word (f m l d : Nat) (hm : m < 18446744073709551616) (hf : f ≤ 64) (hl : l < f) (hd : l + d = f) :
    ((m &&& allN f) * 2 ^ l % 18446744073709551616 ||| (m &&& allN f) / 2 ^ d) &&& allN f = turnN f m l := by
  have hb : (((m &&& allN f) * 2 ^ l % 18446744073709551616 ||| (m &&& allN f) / 2 ^ d) &&& allN f) < 18446744073709551616 := Nat.lt_of_le_of_lt Nat.and_le_right (allN_lt hf)
  refine eq_setP hb (fun j hj => ?_)
  have e : ∀ x, x % 18446744073709551616 = x % 2 ^ 64 := fun x => by rw [two64]
  rw [Nat.testBit_and, Nat.testBit_or, e, Nat.testBit_mod_two_pow, Nat.testBit_mul_two_pow, Nat.testBit_div_two_pow, Nat.testBit_and, Nat.testBit_and, allN_bit, allN_bit, allN_bit]
  unfold srcN
  by_cases h1 : j < f
  · by_cases h2 : l ≤ j
    · have h3 : ¬ j + d < f := by omega
      have h4 : j - l < f := by omega
      simp [h1, h2, h3, h4, hj]
    · have h3 : j + d < f := by omega
      have h5 : j + f - l = j + d := by omega
      simp [h1, h2, h3, hj, h5]
  · simp [h1]

theorem shl_nat (m l : Nat) : IntKind.u64.wrap ((m : Int) * 2 ^ l) = ((m * 2 ^ l % 18446744073709551616 : Nat) : Int) := by
  rw [show ((m : Int) * 2 ^ l) = ((m * 2 ^ l : Nat) : Int) by simp]
  generalize m * 2 ^ l = x
  rw [IntKind.wrap_u64]
  omega
theorem shr_nat (m d : Nat) : ((m : Int) / 2 ^ d) = ((m / 2 ^ d : Nat) : Int) := by simp
theorem turn_int (f m1 l d al r : Nat) (hm1 : m1 < 18446744073709551616) (ha : al < 18446744073709551616) (h : (m1 * 2 ^ l % 18446744073709551616 ||| m1 / 2 ^ d) &&& al = r) :
    bits BinOp.and IntKind.u64 (bits BinOp.or IntKind.u64 (IntKind.u64.wrap ((m1 : Int) * 2 ^ l)) ((m1 : Int) / 2 ^ d)) (al : Int) = (r : Int) := by
  have h1 : m1 * 2 ^ l % 18446744073709551616 < 18446744073709551616 := Nat.mod_lt _ (by decide)
  have h2 : m1 / 2 ^ d < 18446744073709551616 := Nat.lt_of_le_of_lt (Nat.div_le_self _ _) hm1
  have h3 : (m1 * 2 ^ l % 18446744073709551616 ||| m1 / 2 ^ d) < 18446744073709551616 := by
    rw [← two64] at h1 h2 ⊢
    exact Nat.or_lt_two_pow h1 h2
  rw [shl_nat, shr_nat, bits_or_u64_nat _ _ h1 h2, bits_and_u64_nat _ _ h3 ha, h]

/-- n ticks from l on, round. -/
def roundN (f n l : Nat) : Nat := setP (fun j => decide (j < f) && decide (srcN f l j < n))
theorem turn_all (f n l : Nat) : turnN f (allN n) l = roundN f n l := setP_congr (fun j _ => by rw [allN_bit])
end Go.Proofs.YtademjmnoncieaaDoor
