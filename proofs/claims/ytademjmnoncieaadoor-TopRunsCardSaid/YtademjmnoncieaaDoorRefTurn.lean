/-
  A set that is turned; ticks from one on, round; all ticks: the document's plain answers.
  Conditions: the numbers are of their kinds.
-/
import Derived.Test.YtademjmnoncieaaDoorTurn
set_option linter.unusedVariables false
namespace Go.Proofs.YtademjmnoncieaaDoor
open Go.RowKit

theorem allN_succ {i : Nat} (hi : i < 64) : withI (allN i) (i : Int) = allN (i + 1) := by
  rw [withI_nat hi]
  refine eq_of_bits (withN_lt (allN_lt (by omega)) hi) (allN_lt hi) (fun j _ => ?_)
  rw [withN_bit, allN_bit, allN_bit]
  by_cases h : i = j
  · subst h; simp
  · have : decide (j < i + 1) = decide (j < i) := by simp; omega
    simp [h, this]

def AllRel (f : Nat) (s i : Value) : Prop := ∃ k : Nat, k ≤ f ∧ i = .int .i64 k ∧ s = .int .u64 (allN k)

theorem laterN_eq {f l i : Nat} (hl : l < f) (hi : i < f) : laterN f l i = if i + l < f then i + l else i + l - f := by
  unfold laterN
  split
  · exact Nat.mod_eq_of_lt ‹_›
  · rw [Nat.mod_eq_sub_mod (by omega), Nat.mod_eq_of_lt (by omega)]
theorem later_lt {f l i : Nat} (hl : l < f) (hi : i < f) : laterN f l i < f := by
  rw [laterN_eq hl hi]; split <;> omega
theorem later_src {f l i j : Nat} (hl : l < f) (hi : i < f) : laterN f l i = j ↔ j < f ∧ srcN f l j = i := by
  rw [laterN_eq hl hi]
  unfold srcN
  split <;> split <;> omega
theorem src_lt {f l j : Nat} (hl : l < f) (hj : j < f) : srcN f l j < f := by
  unfold srcN
  split <;> omega

def turnS (f m l i : Nat) : Nat := setP (fun j => decide (j < f) && m.testBit (srcN f l j) && decide (srcN f l j < i))
theorem turnS_zero (f m l : Nat) : turnS f m l 0 = 0 := setP_zero (fun j _ => by simp)
theorem turnS_all (f m l : Nat) (hl : l < f) : turnS f m l f = turnN f m l := setP_congr (fun j _ => by
  by_cases hj : j < f
  · have := src_lt hl hj
    simp [hj, this]
  · simp [hj])
theorem turnS_yes {f m l i : Nat} (hl : l < f) (hi : i < f) (hf : f ≤ 64) (hb : m.testBit i = true) : withI (turnS f m l i) (laterN f l i : Int) = turnS f m l (i + 1) := by
  have hlt := later_lt hl hi
  rw [withI_nat (by omega)]
  unfold turnS
  rw [withN_setP _ (by omega)]
  apply setP_congr
  intro j _
  have e := later_src (j := j) hl hi
  by_cases hs : j < f ∧ srcN f l j = i
  · have h1 := e.2 hs
    simp [h1, hs.1, hs.2, hb]
  · have h1 : ¬ laterN f l i = j := fun h => hs (e.1 h)
    by_cases hj : j < f
    · have : srcN f l j ≠ i := fun h => hs ⟨hj, h⟩
      have d : decide (srcN f l j < i + 1) = decide (srcN f l j < i) := by simp; omega
      simp [h1, d]
    · simp [h1, hj]
theorem turnS_no {f m l i : Nat} (hb : m.testBit i = false) : turnS f m l i = turnS f m l (i + 1) := setP_congr (fun j _ => by
  by_cases h : srcN f l j = i
  · rw [h, hb]; simp
  · have d : decide (srcN f l j < i + 1) = decide (srcN f l j < i) := by simp; omega
    rw [d])
theorem turnS_lt (f m l i : Nat) : turnS f m l i < 18446744073709551616 := setP_lt _

def TurnRel (f m l : Nat) (s i : Value) : Prop := ∃ k : Nat, k ≤ f ∧ i = .int .i64 k ∧ s = .int .u64 (turnS f m l k)

theorem round_zero (f l : Nat) : roundN f 0 l = 0 := setP_zero (fun j _ => by simp)
theorem round_full {f l n k : Nat} (hl : l < f) (hk : f ≤ k) (hn : f ≤ n) : roundN f k l = roundN f n l := setP_congr (fun j _ => by
  by_cases hj : j < f
  · have := src_lt hl hj
    have h1 : srcN f l j < k := by omega
    have h2 : srcN f l j < n := by omega
    simp [h1, h2]
  · simp [hj])
theorem round_none (n l : Nat) : roundN 0 n l = 0 := setP_zero (fun j _ => by simp)
theorem round_yes {f l i : Nat} (hl : l < f) (hi : i < f) (hf : f ≤ 64) : withI (roundN f i l) (laterN f l i : Int) = roundN f (i + 1) l := by
  have hlt := later_lt hl hi
  rw [withI_nat (by omega)]
  unfold roundN
  rw [withN_setP _ (by omega)]
  apply setP_congr
  intro j _
  have e := later_src (j := j) hl hi
  by_cases hs : j < f ∧ srcN f l j = i
  · have h1 := e.2 hs
    simp [h1, hs.1, hs.2]
  · have h1 : ¬ laterN f l i = j := fun h => hs (e.1 h)
    by_cases hj : j < f
    · have : srcN f l j ≠ i := fun h => hs ⟨hj, h⟩
      have d : decide (srcN f l j < i + 1) = decide (srcN f l j < i) := by simp; omega
      simp [h1, d]
    · simp [h1, hj]
theorem round_lt (f n l : Nat) : roundN f n l < 18446744073709551616 := setP_lt _

def RoundRel (f l : Nat) (n : Int) (s i : Value) : Prop := ∃ k : Nat, k ≤ f ∧ ((k : Int) ≤ n ∨ k = 0) ∧ i = .int .i64 k ∧ s = .int .u64 (roundN f k l)
end Go.Proofs.YtademjmnoncieaaDoor
