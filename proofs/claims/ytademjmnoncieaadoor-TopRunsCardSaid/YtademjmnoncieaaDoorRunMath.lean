/-
  Numbers alone: where ticks of a set follow one another.
  Conditions: those that each statement lists.
-/
import Derived.Test.YtademjmnoncieaaDoorPlain
set_option linter.unusedVariables false
namespace Go.Proofs.YtademjmnoncieaaDoor

/-- Does a run begin here? -/
def stB (m t : Nat) : Bool := m.testBit t && (decide (t = 0) || !m.testBit (t - 1))
def startN (m : Nat) : Nat := setP (stB m)
theorem startN_bit {m t : Nat} (ht : t < 64) : (startN m).testBit t = stB m t := by unfold startN; rw [setP_bit]; simp [ht]
theorem stB_bit {m t : Nat} (h : stB m t = true) : m.testBit t = true := by unfold stB at h; simp at h; exact h.1
theorem stB_pred {m t : Nat} (h : stB m (t + 1) = true) : m.testBit t = false := by unfold stB at h; simp at h; exact h.2

/-- The tick behind a run. -/
structure IsEnd (m t e : Nat) : Prop where
  le : t ≤ e
  all : ∀ i, t ≤ i → i < e → m.testBit i = true
  out : m.testBit e = false
theorem IsEnd.unique {m t a b : Nat} (ha : IsEnd m t a) (hb : IsEnd m t b) : a = b := by
  rcases Nat.lt_trichotomy a b with h | h | h
  · have := hb.all a ha.le h; rw [ha.out] at this; cases this
  · exact h
  · have := ha.all b hb.le h; rw [hb.out] at this; cases this
theorem IsEnd.le64 {m t e : Nat} (h : IsEnd m t e) (hm : m < 18446744073709551616) (ht : t ≤ 64) : e ≤ 64 := by
  rcases Nat.lt_or_ge 64 e with h1 | h1
  · have := h.all 64 ht h1
    rw [bit_big hm (Nat.le_refl _)] at this
    cases this
  · exact h1

def notN (x : Nat) : Nat := 18446744073709551615 ^^^ x
theorem notN_lt {x : Nat} (hx : x < 18446744073709551616) : notN x < 18446744073709551616 := by
  unfold notN
  rw [← two64] at hx ⊢
  exact Nat.xor_lt_two_pow (by decide) hx
theorem notN_bit (x j : Nat) : (notN x).testBit j = (decide (j < 64) ^^ x.testBit j) := by
  unfold notN
  rw [Nat.testBit_xor]
  have e : (18446744073709551615 : Nat) = 2 ^ 64 - 1 := by decide
  rw [e, Nat.testBit_two_pow_sub_one]
def endN (m t : Nat) : Nat := t + Lib.ctz 64 (notN (m / 2 ^ t))
theorem endN_is {m t : Nat} (hm : m < 18446744073709551616) (ht : t < 64) : IsEnd m t (endN m t) := by
  have hx : m / 2 ^ t < 18446744073709551616 := Nat.lt_of_le_of_lt (Nat.div_le_self _ _) hm
  have hy := notN_lt hx
  have hbit : ∀ i, i < 64 → (notN (m / 2 ^ t)).testBit i = !m.testBit (i + t) := by
    intro i hi
    rw [notN_bit, Nat.testBit_div_two_pow]
    simp [hi]
  unfold endN
  by_cases h0 : notN (m / 2 ^ t) = 0
  · have e : Lib.ctz 64 (notN (m / 2 ^ t)) = 64 := by rw [h0]; rfl
    rw [e]
    refine ⟨by omega, fun i h1 h2 => ?_, bit_big hm (by omega)⟩
    have := hbit (i - t) (by omega)
    rw [h0, Nat.zero_testBit, show i - t + t = i by omega] at this
    cases hb : m.testBit i
    · rw [hb] at this; cases this
    · rfl
  · obtain ⟨c1, c2, c3⟩ := ctz_low h0 hy
    generalize Lib.ctz 64 (notN (m / 2 ^ t)) = c at *
    refine ⟨by omega, fun i h1 h2 => ?_, ?_⟩
    · have := hbit (i - t) (by omega)
      rw [c3 _ (by omega), show i - t + t = i by omega] at this
      cases hb : m.testBit i
      · rw [hb] at this; cases this
      · rfl
    · rw [hbit c c2] at c1
      rw [Nat.add_comm]
      cases hb : m.testBit (c + t)
      · rfl
      · rw [hb] at c1; cases c1

theorem ticksT_none {S a b : Nat} (hab : a ≤ b) (h : ∀ j, a ≤ j → j < b → S.testBit j = false) : ticksT S b = ticksT S a := by
  induction b with
  | zero => have : a = 0 := by omega
            subst this; rfl
  | succ b ih =>
    rcases Nat.lt_or_ge b a with h1 | h1
    · have : a = b + 1 := by omega
      subst this; rfl
    · rw [ticksT_succ, if_neg (by rw [h b h1 (by omega)]; simp), ih h1 (fun j h2 h3 => h j h2 (by omega))]
theorem ticksT_one {S a b c : Nat} (hac : a ≤ c) (hcb : c < b) (hc : S.testBit c = true) (h : ∀ j, a ≤ j → j < b → j ≠ c → S.testBit j = false) : ticksT S b = ticksT S a ++ [c] := by
  rw [ticksT_none (a := c + 1) hcb (fun j h1 h2 => h j (by omega) h2 (by omega)), ticksT_succ, if_pos hc, ticksT_none hac (fun j h1 h2 => h j h1 (by omega) (by omega))]

/-- The runs that begin below k. -/
def runsT (m k : Nat) : List (Nat × Nat) := (ticksT (startN m) k).map (fun t => (t, endN m t))
theorem runsT_length (m k : Nat) : (runsT m k).length = cntT (startN m) k := by unfold runsT cntT; rw [List.length_map]
theorem runsT_zero (m : Nat) : runsT m 0 = [] := rfl

def fromB (m b : Nat) : Nat := setP (fun j => m.testBit j && decide (b ≤ j))
theorem fromB_bit (m b j : Nat) : (fromB m b).testBit j = (decide (j < 64) && (m.testBit j && decide (b ≤ j))) := by unfold fromB; rw [setP_bit]
theorem fromB_lt (m b : Nat) : fromB m b < 18446744073709551616 := by unfold fromB; exact setP_lt _
theorem fromB_zero {m : Nat} (hm : m < 18446744073709551616) : fromB m 0 = m := by
  symm
  exact eq_setP hm (fun j _ => by simp)
theorem fromB_less {m b e : Nat} (h : b ≤ e) : lessN (fromB m b) (allN e) = fromB m e := setP_congr (fun j hj => by
  rw [fromB_bit, allN_bit]
  by_cases h1 : e ≤ j
  · have h2 : ¬ j < e := by omega
    have h3 : b ≤ j := by omega
    simp [h1, h2, h3, hj]
  · have h2 : j < e := by omega
    simp [h1, h2])

/-- One more run, from a boundary on. -/
structure NextRun (m b c e : Nat) : Prop where
  lo : Lib.ctz 64 (fromB m b) = c
  hi : endN (fromB m b) c = e
  c64 : c < 64
  bc : b ≤ c
  ce : c < e
  e64 : e ≤ 64
  out : m.testBit e = false
  list : runsT m e = runsT m b ++ [(c, e)]
  less : lessN (fromB m b) (allN e) = fromB m e

theorem next_run {m b : Nat} (hm : m < 18446744073709551616) (hb : b ≤ 64) (hbd : b = 0 ∨ m.testBit b = false) (h0 : fromB m b ≠ 0) : ∃ c e, NextRun m b c e := by
  obtain ⟨c1, c2, c3⟩ := ctz_low h0 (fromB_lt m b)
  generalize hc : Lib.ctz 64 (fromB m b) = c at *
  have hcm : m.testBit c = true ∧ b ≤ c := by rw [fromB_bit] at c1; simp at c1; exact c1.2
  have he := endN_is (fromB_lt m b) c2
  have he64 := he.le64 (fromB_lt m b) (by omega)
  generalize hee : endN (fromB m b) c = e at *
  have hce : c < e := by
    rcases Nat.lt_or_ge c e with h | h
    · exact h
    · have : c = e := Nat.le_antisymm he.le h
      have ho := he.out
      rw [← this, c1] at ho
      cases ho
  have hend : IsEnd m c e := by
    refine ⟨he.le, fun i h1 h2 => ?_, ?_⟩
    · have := he.all i h1 h2
      rw [fromB_bit] at this
      simp at this
      exact this.2.1
    · rcases Nat.lt_or_ge e 64 with h | h
      · have := he.out
        rw [fromB_bit] at this
        have hbe : b ≤ e := by omega
        simp [h, hbe] at this
        exact this
      · exact bit_big hm h
  have hem : endN m c = e := (endN_is hm c2).unique hend
  have hlow : ∀ i, b ≤ i → i < c → m.testBit i = false := by
    intro i h1 h2
    have := c3 i h2
    rw [fromB_bit] at this
    have h3 : i < 64 := by omega
    simp [h1, h3] at this
    exact this
  have hst : stB m c = true := by
    unfold stB
    rw [hcm.1]
    rcases Nat.eq_zero_or_pos c with h | h
    · simp [h]
    · rcases Nat.lt_or_ge (c - 1) b with h1 | h1
      · have hcb : c = b := by omega
        rcases hbd with h2 | h2
        · omega
        · rw [← hcb, hcm.1] at h2; cases h2
      · rw [hlow (c - 1) h1 (by omega)]; simp
  refine ⟨c, e, ⟨hc, hee, c2, hcm.2, hce, he64, hend.out, ?_, fromB_less (by omega)⟩⟩
  unfold runsT
  rw [ticksT_one (S := startN m) hcm.2 hce (by rw [startN_bit c2]; exact hst) (fun j h1 h2 h3 => ?_), List.map_append]
  · simp [hem]
  · rw [startN_bit (by omega)]
    rcases Nat.lt_or_ge j c with h | h
    · unfold stB; rw [hlow j h1 h]; rfl
    · obtain ⟨i, rfl⟩ : ∃ i, j = i + 1 := ⟨j - 1, by omega⟩
      unfold stB
      have := hend.all i (by omega) (by omega)
      simp [this]

theorem runs_done {m b : Nat} (hb : b ≤ 64) (h0 : fromB m b = 0) : runsT m b = runsT m 64 := by
  unfold runsT
  rw [ticksT_none (S := startN m) hb (fun j h1 h2 => ?_)]
  rw [startN_bit h2]
  have : (fromB m b).testBit j = false := by rw [h0, Nat.zero_testBit]
  rw [fromB_bit] at this
  simp [h1, h2] at this
  unfold stB
  rw [this]
  rfl
theorem runsT_no {m t : Nat} (ht : t < 64) (h : stB m t = false) : runsT m (t + 1) = runsT m t := by
  unfold runsT
  rw [ticksT_succ, if_neg (by rw [startN_bit ht, h]; simp)]
theorem runsT_yes {m t e : Nat} (ht : t < 64) (hm : m < 18446744073709551616) (h : stB m t = true) (he : IsEnd m t e) : runsT m (t + 1) = runsT m t ++ [(t, e)] := by
  unfold runsT
  rw [ticksT_succ, if_pos (by rw [startN_bit ht, h]), List.map_append, ← (endN_is hm ht).unique he]
  rfl
end Go.Proofs.YtademjmnoncieaaDoor
