/-
  Numbers alone: sums of the first of a list of numbers none of which is below 0; all ticks are given when a frame's number is.
  Conditions: those that each statement lists.
-/
import Derived.Test.YtnigoojjbljibaaLargest
import Derived.Test.YtnigoojjbljibaaApartMath
set_option linter.unusedVariables false
namespace Go.Proofs.Ytnigoojjbljibaa

theorem sumT_mono {xs : List Int} (h : ∀ i, i < xs.length → 0 ≤ xs.getD i 0) : ∀ {a b : Nat}, a ≤ b → b ≤ xs.length → sumT xs a ≤ sumT xs b := by
  intro a b
  induction b with
  | zero => intro h1 _; have : a = 0 := by omega
            subst this; exact Int.le_refl _
  | succ b ih =>
    intro h1 h2
    rcases Nat.lt_or_ge b a with h3 | h3
    · have : a = b + 1 := by omega
      subst this; exact Int.le_refl _
    · have hx : xs[b]? = some xs[b] := List.getElem?_eq_getElem (by omega)
      have h0 := h b (by omega)
      rw [getD_of hx] at h0
      rw [sumT_succ hx]
      have := ih h3 (by omega)
      omega

/-- What is given of a frame's ticks at a place. -/
theorem given {xs : List Int} {f k : Nat} {x : Int} (h : ∀ i, i < xs.length → 0 ≤ xs.getD i 0) (hs : sumL xs = (f : Int)) (hx : xs[k]? = some x) :
    ∃ u n : Nat, sumT xs k = (u : Int) ∧ x = (n : Int) ∧ sumT xs (k + 1) = ((u + n : Nat) : Int) ∧ u + n ≤ f := by
  have hk : k < xs.length := (List.getElem?_eq_some_iff.1 hx).1
  have h0 := sumT_mono h (Nat.zero_le k) (by omega)
  rw [sumT_zero] at h0
  have h1 := h k hk
  rw [getD_of hx] at h1
  have h2 := sumT_mono h (show k + 1 ≤ xs.length from hk) (Nat.le_refl _)
  rw [sumT_all (Nat.le_refl _), hs] at h2
  have h3 := sumT_succ hx
  exact ⟨(sumT xs k).toNat, x.toNat, by omega, by omega, by omega, by omega⟩

theorem round_whole {f l : Nat} (hl : l < f) (hf : f ≤ 64) : roundN f f l = allN f := by
  refine eq_of_bits (round_lt _ _ _) (allN_lt hf) (fun j _ => ?_)
  rw [round_bit _ _ _ _ hf, allN_bit]
  by_cases h : j < f
  · have := src_lt hl h
    simp [h, this]
  · simp [h]
end Go.Proofs.Ytnigoojjbljibaa
