/-
  Numbers alone: ticks that are given out one behind the other, round.
  Conditions: those that each statement lists.
-/
import Derived.Test.YtnigoojjbljibaaRefTurn
set_option linter.unusedVariables false
namespace Go.Proofs.Ytnigoojjbljibaa

theorem cntT_with {m t : Nat} (h : m.testBit t = false) : ∀ k, cntT (withN m t) k = cntT m k + (decide (t < k)).toNat
  | 0 => by simp [cntT_zero]
  | k + 1 => by
    rw [cntT_succ, cntT_succ, cntT_with h k, withN_bit]
    by_cases e : t = k
    · subst e
      simp [h]
    · have : decide (t < k + 1) = decide (t < k) := decide_eq_decide.2 (by omega)
      rw [this]
      simp [e]
      omega
theorem cnt_with {m t : Nat} (h : m.testBit t = false) (ht : t < 64) : cnt (withN m t) = cnt m + 1 := by
  unfold cnt
  rw [cntT_with h, decide_eq_true ht]
  rfl
theorem cnt_zero : cnt 0 = 0 := cntT_zero_of (fun j _ => Nat.zero_testBit j)

theorem round_bit (f n l j : Nat) (hf : f ≤ 64) : (roundN f n l).testBit j = (decide (j < f) && decide (srcN f l j < n)) := by
  unfold roundN
  rw [setP_bit]
  by_cases hj : j < f
  · have : j < 64 := by omega
    simp [this]
  · simp [hj]
theorem cnt_round {f l : Nat} (hl : l < f) (hf : f ≤ 64) : ∀ n, n ≤ f → cnt (roundN f n l) = n
  | 0, _ => by rw [round_zero, cnt_zero]
  | n + 1, h => by
    have ih := cnt_round hl hf n (by omega)
    have hi : n < f := by omega
    have hlt := later_lt hl hi
    have hb : (roundN f n l).testBit (laterN f l n) = false := by
      rw [round_bit f n l _ hf, ((later_src hl hi).1 rfl).2]
      simp
    rw [← round_yes hl hi hf, withI_nat (by omega), cnt_with hb (by omega), ih]

theorem modN_add {a : Int} {f u : Nat} (h : 0 < f) : modN (a + u) f = (modN a f + u) % f := by
  have h1 := modN_cast (n := a) h
  have h2 := modN_cast (n := a + u) h
  have : ((modN (a + u) f : Nat) : Int) = (((modN a f + u) % f : Nat) : Int) := by
    rw [h2, Int.natCast_emod, Int.natCast_add, h1, Int.emod_add_emod]
  omega
theorem modN_tmod (a : Int) {f : Nat} (h : 0 < f) : modN (a.tmod f) f = modN a f := by
  have h2 := modN_cast (n := a.tmod f) h
  have hl := modN_lt (n := a) h
  have e : (a.tmod f) % (f : Int) = modN a f := by
    rcases tmod_cases a h with ⟨h3, h4⟩ | ⟨h3, h4⟩
    · rw [h4]; exact Int.emod_eq_of_lt (by omega) (by omega)
    · rw [← Int.add_emod_right, h4]; exact Int.emod_eq_of_lt (by omega) (by omega)
  omega
theorem src_cases (f l j : Nat) : (l ≤ j ∧ srcN f l j = j - l) ∨ (j < l ∧ srcN f l j = j + f - l) := by
  unfold srcN
  split <;> omega
theorem src_add {f l u j : Nat} (hl : l < f) (hu : u ≤ f) (hj : j < f) : srcN f ((l + u) % f) j = if u ≤ srcN f l j then srcN f l j - u else srcN f l j + f - u := by
  have hv : (l + u < f ∧ (l + u) % f = l + u) ∨ (f ≤ l + u ∧ (l + u) % f = l + u - f) := by
    rcases Nat.lt_or_ge (l + u) f with h | h
    · exact .inl ⟨h, Nat.mod_eq_of_lt h⟩
    · exact .inr ⟨h, by rw [Nat.mod_eq_sub_mod h, Nat.mod_eq_of_lt (by omega)]⟩
  generalize (l + u) % f = v at *
  have h1 := src_cases f l j
  have h2 := src_cases f v j
  generalize srcN f l j = s at *
  generalize srcN f v j = x at *
  split <;> omega

/-- Given out behind what was given. -/
structure Apart (f l u n : Nat) : Prop where
  meet : roundN f n ((l + u) % f) &&& roundN f u l = 0
  join : roundN f u l ||| roundN f n ((l + u) % f) = roundN f (u + n) l
  count : cnt (roundN f n ((l + u) % f)) = n
  inside : lessN (roundN f n ((l + u) % f)) (allN f) = 0
theorem apart_of {f l u n : Nat} (hl : l < f) (hf : f ≤ 64) (h : u + n ≤ f) : Apart f l u n := by
  have hl2 : (l + u) % f < f := Nat.mod_lt _ (by omega)
  have key : ∀ j, j < f → (srcN f ((l + u) % f) j < n ↔ u ≤ srcN f l j ∧ srcN f l j < u + n) := by
    intro j hj
    rw [src_add hl (by omega) hj]
    have := src_lt hl hj
    split <;> omega
  refine ⟨?_, ?_, cnt_round hl2 hf n (by omega), ?_⟩
  · refine eq_of_bits (Nat.lt_of_le_of_lt Nat.and_le_left (round_lt _ _ _)) (by decide) (fun j hj => ?_)
    rw [Nat.testBit_and, round_bit _ _ _ _ hf, round_bit _ _ _ _ hf, Nat.zero_testBit]
    by_cases h1 : j < f
    · by_cases h2 : srcN f ((l + u) % f) j < n
      · have := ((key j h1).1 h2).1
        have h3 : ¬ srcN f l j < u := by omega
        simp [h3]
      · simp [h2]
    · simp [h1]
  · have hlt : roundN f u l ||| roundN f n ((l + u) % f) < 18446744073709551616 := by
      have a := round_lt f u l
      have b := round_lt f n ((l + u) % f)
      rw [← two64] at a b ⊢
      exact Nat.or_lt_two_pow a b
    refine eq_of_bits hlt (round_lt _ _ _) (fun j hj => ?_)
    rw [Nat.testBit_or, round_bit _ _ _ _ hf, round_bit _ _ _ _ hf, round_bit _ _ _ _ hf]
    by_cases h1 : j < f
    · have e : decide (srcN f ((l + u) % f) j < n) = decide (u ≤ srcN f l j ∧ srcN f l j < u + n) := decide_eq_decide.2 (key j h1)
      rw [e]
      simp only [h1, decide_true, Bool.true_and]
      rw [← Bool.decide_or]
      exact decide_eq_decide.2 (by omega)
    · simp [h1]
  · refine setP_zero (fun j hj => ?_)
    rw [round_bit _ _ _ _ hf, allN_bit]
    by_cases h1 : j < f <;> simp [h1]
end Go.Proofs.Ytnigoojjbljibaa
