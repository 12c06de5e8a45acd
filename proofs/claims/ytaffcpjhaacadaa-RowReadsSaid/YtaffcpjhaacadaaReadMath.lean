/-
  The document's reading of a number is the program's, in numbers.
  Conditions: none.
-/
import Derived.Test.YtaffcpjhaacadaaReader
set_option linter.unusedVariables false
namespace Go.Proofs.Ytaffcpjhaacadaa

/-- The number of bytes, as the document reckons it, at 64 bits. -/
def valueT : List Nat → Nat
  | [] => 0
  | x :: r => (128 * valueT r + x % 128) % 18446744073709551616
theorem valueT_lt : ∀ l, valueT l < 18446744073709551616
  | [] => by decide
  | x :: r => Nat.mod_lt _ (by decide)
/-- How many bytes ahead, f at most, are 128 or more. -/
def headT : Nat → List Nat → Nat
  | 0, _ => 0
  | _ + 1, [] => 0
  | f + 1, x :: r => if 128 ≤ x then headT f r + 1 else 0
theorem headT_le : ∀ (f : Nat) (l : List Nat), headT f l ≤ f ∧ headT f l ≤ l.length
  | 0, l => ⟨Nat.le_refl _, Nat.zero_le _⟩
  | f + 1, [] => ⟨Nat.zero_le _, Nat.zero_le _⟩
  | f + 1, x :: r => by
    have := headT_le f r
    unfold headT
    split
    · simp; omega
    · simp
theorem headT_more {f x : Nat} {r : List Nat} (h : 128 ≤ x) : headT (f + 1) (x :: r) = headT f r + 1 := by
  conv => lhs; unfold headT
  rw [if_pos h]
theorem headT_last {f x : Nat} {r : List Nat} (h : x < 128) : headT (f + 1) (x :: r) = 0 := by
  unfold headT
  rw [if_neg (by omega)]

theorem valueT_enc : ∀ (k m : Nat), m ≤ k → m < 18446744073709551616 → valueT (enc m) = m := by
  intro k
  induction k with
  | zero =>
    intro m hk hm
    rw [enc_small (by omega)]
    unfold valueT valueT
    omega
  | succ k ih =>
    intro m hk hm
    rcases Nat.lt_or_ge m 128 with h | h
    · rw [enc_small h]
      unfold valueT valueT
      omega
    · rw [enc_great h]
      unfold valueT
      rw [ih (m / 128) (by omega) (by omega)]
      omega
theorem headT_enc (ys : List Nat) : ∀ (f m : Nat), (enc m).length ≤ f → headT f (enc m ++ ys) = (enc m).length - 1 := by
  intro f
  induction f with
  | zero => intro m h; have := enc_pos m; omega
  | succ f ih =>
    intro m h
    rcases Nat.lt_or_ge m 128 with h1 | h1
    · rw [enc_small h1]
      exact headT_last h1
    · have e := enc_great h1
      rw [e, List.length_cons] at h
      rw [e, List.cons_append, headT_more (by omega), ih (m / 128) (by omega), List.length_cons]
      have := enc_pos (m / 128)
      omega

/-- What is read is a number's bytes. -/
theorem lead_back : ∀ (l : List Nat) (i acc N L : Nat), (∀ x ∈ l, x < 256) → lead i acc l = (N, L) → L ≠ 0 →
    ∃ m, i < L ∧ L - i ≤ l.length ∧ l.take (L - i) = enc m ∧ N = acc + m * 128 ^ i ∧ (0 < i → 0 < m) := by
  intro l
  induction l with
  | nil => intro i acc N L _ h h0; rw [lead_nil] at h; exact absurd (Prod.mk.inj h).2.symm h0
  | cons x r ih =>
    intro i acc N L hl h h0
    rcases Nat.lt_or_ge i 10 with hi | hi
    · have hx := hl x (by simp)
      rcases Nat.lt_or_ge x 128 with h1 | h1
      · by_cases hb : (0 < i ∧ x = 0) ∨ (i = 9 ∧ 1 < x)
        · rw [lead_bad hi h1 hb] at h; exact absurd (Prod.mk.inj h).2.symm h0
        · rw [lead_last hi h1 hb] at h
          obtain ⟨e1, e2⟩ := Prod.mk.inj h
          refine ⟨x, by omega, by simp; omega, ?_, e1.symm, fun h => ?_⟩
          · rw [← e2, Nat.add_sub_cancel_left, enc_small h1]; rfl
          · by_cases e : x = 0
            · exact absurd (.inl ⟨h, e⟩) hb
            · omega
      · rw [lead_more hi h1] at h
        obtain ⟨m, a1, a2, a3, a4, a5⟩ := ih (i + 1) _ N L (fun y hy => hl y (by simp [hy])) h h0
        have hm : 0 < m := a5 (Nat.succ_pos _)
        refine ⟨(x - 128) + m * 128, by omega, by rw [List.length_cons]; omega, ?_, ?_, fun _ => by omega⟩
        · have e1 : L - i = (L - (i + 1)) + 1 := by omega
          rw [e1, List.take_succ_cons, a3, enc_great (n := x - 128 + m * 128) (by omega)]
          have e2 : ((x - 128) + m * 128) % 128 = x - 128 := by omega
          have e3 : ((x - 128) + m * 128) / 128 = m := by omega
          rw [e2, e3, show 128 + (x - 128) = x by omega]
        · rw [a4, Nat.pow_succ, Nat.add_mul, Nat.mul_assoc m 128, Nat.mul_comm 128 (128 ^ i), Nat.add_assoc]
    · rw [lead_ten hi] at h; exact absurd (Prod.mk.inj h).2.symm h0

/-- The program's reading by the document's words. -/
theorem lead_head {bs : List Nat} (hb : ∀ x ∈ bs, x < 256) (h : headT 10 bs = 10 ∨ headT 10 bs = bs.length) : (lead 0 0 bs).2 = 0 := by
  by_cases h0 : (lead 0 0 bs).2 = 0
  · exact h0
  · exfalso
    obtain ⟨m, a1, a2, a3, a4, _⟩ := lead_back bs 0 0 _ _ hb rfl h0
    rw [Nat.sub_zero] at a2 a3
    have hn := (lead_bounds bs 0 0 hb (fun _ => by decide)).1
    rw [Nat.zero_add, Nat.pow_zero, Nat.mul_one] at a4
    have hlen : (enc m).length = (lead 0 0 bs).2 := by rw [← a3, List.length_take]; omega
    have hm64 : m < 18446744073709551616 := by rw [← a4]; exact hn
    have h10 := enc_ten hm64
    have := headT_enc (bs.drop (lead 0 0 bs).2) 10 m h10
    rw [← a3, List.take_append_drop] at this
    rw [this, a3] at h
    omega
theorem lead_value {bs : List Nat} (hb : ∀ x ∈ bs, x < 256) (h1 : headT 10 bs ≠ 10) (h2 : headT 10 bs ≠ bs.length) :
    (lead 0 0 bs).2 = 0 ∧ enc (valueT (bs.take (headT 10 bs + 1))) ≠ bs.take (headT 10 bs + 1) ∨ lead 0 0 bs = (valueT (bs.take (headT 10 bs + 1)), headT 10 bs + 1) ∧ enc (valueT (bs.take (headT 10 bs + 1))) = bs.take (headT 10 bs + 1) := by
  have hle := headT_le 10 bs
  by_cases he : enc (valueT (bs.take (headT 10 bs + 1))) = bs.take (headT 10 bs + 1)
  · right
    refine ⟨?_, he⟩
    have := lead_read (n := valueT (bs.take (headT 10 bs + 1))) (valueT_lt _) (bs.drop (headT 10 bs + 1))
    rw [he, List.take_append_drop, List.length_take] at this
    rw [this]
    exact Prod.ext rfl (by show min _ _ = _; omega)
  · left
    refine ⟨?_, he⟩
    by_cases h0 : (lead 0 0 bs).2 = 0
    · exact h0
    · exfalso
      obtain ⟨m, a1, a2, a3, a4, _⟩ := lead_back bs 0 0 _ _ hb rfl h0
      rw [Nat.sub_zero] at a2 a3
      have hn := (lead_bounds bs 0 0 hb (fun _ => by decide)).1
      rw [Nat.zero_add, Nat.pow_zero, Nat.mul_one] at a4
      have hlen : (enc m).length = (lead 0 0 bs).2 := by rw [← a3, List.length_take]; omega
      have hm64 : m < 18446744073709551616 := by rw [← a4]; exact hn
      have h10 := enc_ten hm64
      have hh := headT_enc (bs.drop (lead 0 0 bs).2) 10 m h10
      rw [← a3, List.take_append_drop] at hh
      rw [a3, hlen] at hh
      apply he
      rw [hh, show (lead 0 0 bs).2 - 1 + 1 = (lead 0 0 bs).2 by omega, a3, valueT_enc m m (Nat.le_refl _) hm64]
end Go.Proofs.Ytaffcpjhaacadaa
