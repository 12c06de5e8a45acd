/-
  Numbers read well: what a reader's Num tells of the bytes.
  Conditions: none.
-/
import Derived.Test.YtaffcpjhaacadaaReadMath
set_option linter.unusedVariables false
namespace Go.Proofs.Ytaffcpjhaacadaa

/-- A number that is read well. -/
theorem numT_good {bs : List Nat} {e : Int} {m : Nat} (hb : ∀ x ∈ bs, x < 256) (h : (numT bs e m).2.2 = 0) : e = 0 ∧ bs = enc (numT bs e m).1 ++ (numT bs e m).2.1 := by
  unfold numT at h ⊢
  split
  · rename_i he
    rw [if_pos he] at h
    exact absurd h he
  · rename_i he
    rw [if_neg he] at h
    refine ⟨Classical.byContradiction he, ?_⟩
    split
    · rename_i h0
      rw [if_pos h0] at h
      exact absurd h (by decide)
    · rename_i h0
      rw [if_neg h0] at h
      split
      · rename_i hm
        rw [if_pos hm] at h
        exact absurd h (by decide)
      · obtain ⟨n, a1, a2, a3, a4, _⟩ := lead_back bs 0 0 _ _ hb rfl h0
        rw [Nat.sub_zero] at a2 a3
        rw [Nat.zero_add, Nat.pow_zero, Nat.mul_one] at a4
        show bs = enc (lead 0 0 bs).1 ++ bs.drop (lead 0 0 bs).2
        rw [a4, ← a3, List.take_append_drop]
theorem numT_le (bs : List Nat) (e : Int) (most : Nat) : (numT bs e most).1 ≤ most := by
  unfold numT
  split
  · exact Nat.zero_le _
  · split
    · exact Nat.zero_le _
    · split
      · exact Nat.zero_le _
      · show (lead 0 0 bs).1 ≤ most; omega
theorem numT_bad {bs : List Nat} {e : Int} (h : e ≠ 0) (most : Nat) : numT bs e most = (0, bs, e) := if_pos h
theorem numT_read {n m : Nat} (h : n ≤ m) (hm : n < 18446744073709551616) (r : List Nat) : numT (enc n ++ r) 0 m = (n, r, 0) := by
  have hl := lead_read hm r
  have hp := enc_pos n
  unfold numT
  rw [hl]
  simp only [ne_eq, not_true_eq_false, if_false]
  rw [if_neg (by omega), if_neg (by omega)]
  simp
theorem numT_rest {bs : List Nat} {e : Int} {m : Nat} (hb : ∀ x ∈ bs, x < 256) : ∀ x ∈ (numT bs e m).2.1, x < 256 := by
  unfold numT
  split
  · exact hb
  · split
    · intro x h; cases h
    · split
      · intro x h; cases h
      · exact fun x h => hb x (List.mem_of_mem_drop h)
theorem numT_len (bs : List Nat) (e : Int) (most : Nat) : (numT bs e most).2.1.length ≤ bs.length := by
  unfold numT
  split
  · exact Nat.le_refl _
  · split
    · simp
    · split
      · simp
      · show (bs.drop _).length ≤ _; simp
theorem endI_zero {bs : List Nat} {e : Int} (h : endI bs e = 0) : e = 0 ∧ bs = [] := by
  unfold endI at h
  split at h
  · cases h
  · rename_i h0
    subst h
    refine ⟨rfl, ?_⟩
    cases bs with
    | nil => rfl
    | cons x r => exact absurd ⟨rfl, by simp⟩ h0
theorem map_toNat (l : List Nat) : (l.map fun n : Nat => (n : Int)).map Int.toNat = l := by
  rw [List.map_map]
  conv => rhs; rw [← List.map_id l]
  apply List.map_congr_left
  intro x _
  simp
theorem map_back {l : List Int} (h : ∀ n ∈ l, 0 ≤ n) : (l.map Int.toNat).map (fun n : Nat => (n : Int)) = l := by
  rw [List.map_map]
  conv => rhs; rw [← List.map_id l]
  apply List.map_congr_left
  intro x hx
  have := h x hx
  simp
  omega
end Go.Proofs.Ytaffcpjhaacadaa
