/-
  Wants that are right are few: no more than there are units.
  Conditions: none.
-/
import Derived.Test.YtpjmdnhoiobedaaCheckMath
set_option linter.unusedVariables false
namespace Go.Proofs.Ytpjmdnhoiobedaa

theorem nodup_lt : ∀ (n : Nat) (l : List Nat), l.Nodup → (∀ x ∈ l, x < n) → l.length ≤ n
  | 0, l, _, h => by
    cases l with
    | nil => exact Nat.le_refl _
    | cons x r => exact absurd (h x (by simp)) (Nat.not_lt_zero _)
  | n + 1, l, hd, h => by
    have h1 := nodup_lt n (l.erase n) (hd.erase n) (fun x hx => by
      have hm := (hd.mem_erase_iff).1 hx
      have := h x hm.2
      have := hm.1
      omega)
    rw [List.length_erase] at h1
    split at h1 <;> omega
/-- A unit's place among all. -/
def idxU (u : Int) : Nat := if u ≤ 200 then (u - 1).toNat else (u - 801).toNat
theorem idxU_lt {u : Int} (h : isU u = true) : idxU u < 240 := by
  simp [isU] at h
  unfold idxU
  split <;> omega
theorem idxU_inj {u v : Int} (hu : isU u = true) (hv : isU v = true) (h : idxU u = idxU v) : u = v := by
  simp [isU] at hu hv
  unfold idxU at h
  split at h <;> split at h <;> omega
theorem few_wants {f : Int} {l : List Sp} (h : chkT f l = 0) : l.length ≤ 240 := by
  unfold chkT at h
  by_cases hf : f < 2 ∨ 64 < f
  · rw [if_pos hf] at h; exact absurd h (by decide)
  · rw [if_neg hf] at h
    have hz := (chkL_zero l []).1 h
    have hall : ∀ (i : Nat) (y : Sp), l[i]? = some y → isU y.1 = true ∧ ∀ s ∈ l.take i, s.1 ≠ y.1 := fun i y hy => by
      obtain ⟨h1, _, _, h4⟩ := chkE_zero.1 (hz i y hy)
      refine ⟨h1, fun s hs he => ?_⟩
      rw [List.nil_append, List.any_eq_false] at h4
      exact h4 s hs (decide_eq_true he)
    have h1 : (l.map fun y => idxU y.1).length ≤ 240 := by
      refine nodup_lt 240 _ ?_ ?_
      · rw [List.Nodup, List.pairwise_iff_getElem]
        intro i j hi hj hij he
        rw [List.length_map] at hi hj
        rw [List.getElem_map, List.getElem_map] at he
        have hyi := List.getElem?_eq_getElem hi
        have hyj := List.getElem?_eq_getElem hj
        obtain ⟨u1, _⟩ := hall i _ hyi
        obtain ⟨u2, n2⟩ := hall j _ hyj
        refine n2 l[i] ?_ (idxU_inj u1 u2 he)
        rw [List.mem_take_iff_getElem]
        exact ⟨i, by omega, rfl⟩
      · intro x hx
        obtain ⟨y, hy, rfl⟩ := List.mem_map.1 hx
        obtain ⟨i, hi⟩ := List.getElem?_of_mem hy
        exact idxU_lt (hall i y hi).1
    rwa [List.length_map] at h1
/-- Numbers of their kinds, pieces that are few: a plan as tables make it. -/
structure WideL (l : List Pl) : Prop where
  len : l.length ≤ 1200000
  ok : ∀ x ∈ l, PlOk x ∧ x.ps.length ≤ 1000
theorem LightL.wide {l : List Pl} (h : LightL l) : WideL l := ⟨by have := h.len; omega, h.ok⟩
theorem WideL.light {l : List Pl} (h : WideL l) {f : Int} (hc : chkT f (wantsT l) = 0) : LightL l :=
  ⟨by have := few_wants hc; rw [wantsT_length] at this; omega, h.ok⟩
end Go.Proofs.Ytpjmdnhoiobedaa
