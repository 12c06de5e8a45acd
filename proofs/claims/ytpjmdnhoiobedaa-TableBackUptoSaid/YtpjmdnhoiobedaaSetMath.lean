/-
  Numbers alone: sets of ticks as the bits of a number below 2^64.
  Conditions: those that each statement lists.
-/
import Derived.Laws.Bits64b
import Derived.Lib.TrailingZeros
set_option linter.unusedVariables false
namespace Go.Proofs.Ytpjmdnhoiobedaa

theorem two64 : (2 : Nat) ^ 64 = 18446744073709551616 := by decide

/-- All ticks of a frame. -/
def allN (k : Nat) : Nat := 2 ^ k - 1
theorem allN_bit (k j : Nat) : (allN k).testBit j = decide (j < k) := Nat.testBit_two_pow_sub_one k j
theorem allN_lt {k : Nat} (h : k ≤ 64) : allN k < 18446744073709551616 := by
  unfold allN
  have h1 : 2 ^ k ≤ 2 ^ 64 := Nat.pow_le_pow_right (by decide) h
  have h2 : 0 < 2 ^ k := Nat.two_pow_pos k
  rw [two64] at h1
  omega

/-- A set with one more tick. -/
def withN (m t : Nat) : Nat := m ||| 2 ^ t
theorem withN_bit (m t j : Nat) : (withN m t).testBit j = (m.testBit j || decide (t = j)) := by
  unfold withN
  rw [Nat.testBit_or, Nat.testBit_two_pow]
theorem pow_lt64 {t : Nat} (h : t < 64) : 2 ^ t < 18446744073709551616 := by
  rw [← two64]
  exact Nat.pow_lt_pow_right (by decide) h
theorem withN_lt {m t : Nat} (hm : m < 18446744073709551616) (ht : t < 64) : withN m t < 18446744073709551616 := by
  have := pow_lt64 ht
  rw [← two64] at hm this ⊢
  exact Nat.or_lt_two_pow hm this
theorem withN_of {m t : Nat} (h : m.testBit t = true) : withN m t = m := by
  apply Nat.eq_of_testBit_eq
  intro j
  rw [withN_bit]
  by_cases e : t = j
  · subst e; simp [h]
  · simp [e]
theorem add_pow {m t : Nat} (h : m.testBit t = false) : m + 2 ^ t = withN m t := by
  have hlo : m % 2 ^ t < 2 ^ t := Nat.mod_lt _ (Nat.two_pow_pos t)
  have hd := Nat.div_add_mod m (2 ^ t)
  have hev : m / 2 ^ t % 2 = 0 := by
    have := @Nat.testBit_eq_decide_div_mod_eq t m
    rw [h] at this
    have := of_decide_eq_false this.symm
    omega
  obtain ⟨q, hq⟩ : ∃ q, m / 2 ^ t = 2 * q := ⟨m / 2 ^ t / 2, by omega⟩
  have e1 : m + 2 ^ t = 2 ^ t * (2 * q + 1) + m % 2 ^ t := by
    rw [hq] at hd
    rw [Nat.mul_add, Nat.mul_one]
    omega
  apply Nat.eq_of_testBit_eq
  intro j
  rw [withN_bit, e1, Nat.testBit_two_pow_mul_add _ hlo]
  have e2 : m.testBit j = if j < t then (m % 2 ^ t).testBit j else (2 * q).testBit (j - t) := by
    have := Nat.testBit_two_pow_mul_add (2 * q) hlo j
    rw [hq] at hd
    rw [hd] at this
    exact this
  rw [e2]
  by_cases hj : j < t
  · have : ¬ t = j := by omega
    simp [hj, this]
  · simp only [hj, if_false]
    by_cases e : t = j
    · subst e
      simp
    · obtain ⟨s, hs⟩ : ∃ s, j - t = s + 1 := ⟨j - t - 1, by omega⟩
      rw [hs, Nat.testBit_succ, Nat.testBit_succ]
      have d1 : (2 * q + 1) / 2 = q := by omega
      have d2 : 2 * q / 2 = q := by omega
      rw [d1, d2]
      simp [e]

/-- The set of those below 64 of which p holds. -/
def setT (p : Nat → Bool) : Nat → Nat
  | 0 => 0
  | k + 1 => if p k = true then withN (setT p k) k else setT p k
def setP (p : Nat → Bool) : Nat := setT p 64
theorem setT_bit (p : Nat → Bool) : ∀ k j, (setT p k).testBit j = (decide (j < k) && p j) := by
  intro k
  induction k with
  | zero => intro j; simp [setT]
  | succ k ih =>
    intro j
    rw [setT]
    by_cases hk : p k = true
    · rw [if_pos hk, withN_bit, ih]
      by_cases e : k = j
      · subst e; simp [hk]
      · have : decide (j < k + 1) = decide (j < k) := by simp; omega
        rw [this]
        simp [e]
    · rw [if_neg hk, ih]
      by_cases e : k = j
      · subst e; simp at hk; simp [hk]
      · have : decide (j < k + 1) = decide (j < k) := by simp; omega
        rw [this]
theorem setP_bit (p : Nat → Bool) (j : Nat) : (setP p).testBit j = (decide (j < 64) && p j) := setT_bit p 64 j
theorem setP_lt (p : Nat → Bool) : setP p < 18446744073709551616 := by
  rw [← two64]
  apply Nat.lt_pow_two_of_testBit
  intro i hi
  rw [setP_bit]
  have : ¬ i < 64 := by omega
  simp [this]
theorem bit_big {x j : Nat} (hx : x < 18446744073709551616) (hj : 64 ≤ j) : x.testBit j = false :=
  Nat.testBit_lt_two_pow (Nat.lt_of_lt_of_le (by rw [← two64] at hx; exact hx) (Nat.pow_le_pow_right (by decide) hj))
theorem eq_setP {x : Nat} {p : Nat → Bool} (hx : x < 18446744073709551616) (h : ∀ j, j < 64 → x.testBit j = p j) : x = setP p := by
  apply Nat.eq_of_testBit_eq
  intro j
  rw [setP_bit]
  by_cases hj : j < 64
  · simp [hj, h j hj]
  · rw [bit_big hx (by omega)]; simp [hj]
theorem setP_congr {p q : Nat → Bool} (h : ∀ j, j < 64 → p j = q j) : setP p = setP q :=
  eq_setP (setP_lt p) (fun j hj => by rw [setP_bit]; simp [hj, h j hj])
theorem setP_zero {p : Nat → Bool} (h : ∀ j, j < 64 → p j = false) : setP p = 0 := by
  symm
  exact eq_setP (by decide) (fun j hj => by rw [h j hj]; exact Nat.zero_testBit j)
theorem eq_of_bits {x y : Nat} (hx : x < 18446744073709551616) (hy : y < 18446744073709551616) (h : ∀ j, j < 64 → x.testBit j = y.testBit j) : x = y :=
  (eq_setP hx h).trans (eq_setP hy (fun _ _ => rfl)).symm
theorem setP_self {m : Nat} (hm : m < 18446744073709551616) : m = setP (m.testBit ·) := eq_setP hm (fun _ _ => rfl)
theorem withN_setP (p : Nat → Bool) {t : Nat} (ht : t < 64) : withN (setP p) t = setP (fun j => p j || decide (t = j)) :=
  eq_setP (withN_lt (setP_lt p) ht) (fun j hj => by rw [withN_bit, setP_bit]; simp [hj])
theorem ne_zero_bit {x : Nat} (hx : x < 18446744073709551616) (h : x ≠ 0) : ∃ j, j < 64 ∧ x.testBit j = true := by
  apply Classical.byContradiction
  intro hn
  apply h
  refine eq_of_bits hx (by decide) (fun j hj => ?_)
  rw [Nat.zero_testBit]
  cases hb : x.testBit j
  · rfl
  · exact absurd ⟨j, hj, hb⟩ hn
theorem ne_zero_of {x j : Nat} (h : x.testBit j = true) : x ≠ 0 := by
  intro e
  subst e
  rw [Nat.zero_testBit] at h
  cases h

/-- The ticks below k, rising. -/
def ticksT (m k : Nat) : List Nat := (List.range k).filter (m.testBit ·)
def ticks (m : Nat) : List Nat := ticksT m 64
def cntT (m k : Nat) : Nat := (ticksT m k).length
def cnt (m : Nat) : Nat := cntT m 64
theorem ticksT_succ (m k : Nat) : ticksT m (k + 1) = if m.testBit k = true then ticksT m k ++ [k] else ticksT m k := by
  unfold ticksT
  rw [List.range_succ, List.filter_append]
  by_cases h : m.testBit k = true <;> simp [h]
theorem cntT_zero (m : Nat) : cntT m 0 = 0 := rfl
theorem cntT_succ (m k : Nat) : cntT m (k + 1) = cntT m k + (m.testBit k).toNat := by
  unfold cntT
  rw [ticksT_succ]
  by_cases h : m.testBit k = true <;> simp [h]
theorem cntT_mono (m : Nat) {a b : Nat} (h : a ≤ b) : cntT m a ≤ cntT m b := by
  induction b with
  | zero => have : a = 0 := by omega
            subst this; exact Nat.le_refl _
  | succ b ih =>
    rcases Nat.lt_or_ge b a with h1 | h1
    · have : a = b + 1 := by omega
      subst this; exact Nat.le_refl _
    · rw [cntT_succ]; have := ih h1; omega
theorem cntT_lt (m : Nat) {a b : Nat} (h : a < b) (ha : m.testBit a = true) : cntT m a < cntT m b := by
  have h1 := cntT_mono m (a := a + 1) (b := b) h
  rw [cntT_succ, ha] at h1
  simp at h1
  omega
theorem cntT_le (m k : Nat) : cntT m k ≤ k := by
  induction k with
  | zero => rw [cntT_zero]; exact Nat.le_refl _
  | succ k ih => rw [cntT_succ]; cases m.testBit k <;> simp <;> omega
theorem cnt_le (m : Nat) : cnt m ≤ 64 := cntT_le m 64
theorem length_ticks (m : Nat) : (ticks m).length = cnt m := rfl
theorem tickT_iff (m : Nat) : ∀ k i j, (ticksT m k)[i]? = some j ↔ j < k ∧ m.testBit j = true ∧ cntT m j = i := by
  intro k
  induction k with
  | zero => intro i j; simp [ticksT]
  | succ k ih =>
    intro i j
    rw [ticksT_succ]
    by_cases hk : m.testBit k = true
    · rw [if_pos hk, List.getElem?_append]
      by_cases hi : i < (ticksT m k).length
      · rw [if_pos hi, ih]
        constructor
        · rintro ⟨h1, h2, h3⟩; exact ⟨by omega, h2, h3⟩
        · rintro ⟨h1, h2, h3⟩
          refine ⟨?_, h2, h3⟩
          rcases Nat.lt_or_ge j k with h | h
          · exact h
          · have : j = k := by omega
            subst this
            have e : cntT m j = (ticksT m j).length := rfl
            omega
      · rw [if_neg hi]
        constructor
        · intro h
          have h0 : i - (ticksT m k).length = 0 := by
            rcases Nat.eq_zero_or_pos (i - (ticksT m k).length) with h0 | h0
            · exact h0
            · obtain ⟨s, hs⟩ : ∃ s, i - (ticksT m k).length = s + 1 := ⟨i - (ticksT m k).length - 1, by omega⟩
              rw [hs] at h; simp at h
          rw [h0] at h
          simp at h
          subst h
          refine ⟨by omega, hk, ?_⟩
          have e : cntT m k = (ticksT m k).length := rfl
          omega
        · rintro ⟨h1, h2, h3⟩
          have hjk : j = k := by
            rcases Nat.lt_or_ge j k with h | h
            · have := cntT_lt m h h2
              have e : cntT m k = (ticksT m k).length := rfl
              omega
            · omega
          subst hjk
          have e : cntT m j = (ticksT m j).length := rfl
          have : i - (ticksT m j).length = 0 := by omega
          rw [this]; rfl
    · rw [if_neg hk, ih]
      constructor
      · rintro ⟨h1, h2, h3⟩; exact ⟨by omega, h2, h3⟩
      · rintro ⟨h1, h2, h3⟩
        refine ⟨?_, h2, h3⟩
        rcases Nat.lt_or_ge j k with h | h
        · exact h
        · have : j = k := by omega
          subst this
          exact absurd h2 hk
theorem tick_iff (m i j : Nat) : (ticks m)[i]? = some j ↔ j < 64 ∧ m.testBit j = true ∧ cntT m j = i := tickT_iff m 64 i j
theorem tick_ex {m i : Nat} (h : i < cnt m) : ∃ j, j < 64 ∧ m.testBit j = true ∧ cntT m j = i := by
  have h' : i < (ticks m).length := h
  exact ⟨(ticks m)[i], (tick_iff m i _).1 (List.getElem?_eq_getElem h')⟩
theorem tick_eq {m i j k : Nat} (h : (ticks m)[i]? = some k) (hj : m.testBit j = true) (hj64 : j < 64) : cntT m j = i ↔ j = k := by
  constructor
  · intro e
    have := (tick_iff m i j).2 ⟨hj64, hj, e⟩
    rw [h] at this
    exact (Option.some.inj this).symm
  · intro e
    subst e
    exact ((tick_iff m i j).1 h).2.2
theorem cnt_pos {m j : Nat} (hj : j < 64) (h : m.testBit j = true) : 0 < cnt m := by
  have := cntT_lt m hj h
  unfold cnt
  omega
theorem cntT_zero_of {m : Nat} {k : Nat} (h : ∀ j, j < k → m.testBit j = false) : cntT m k = 0 := by
  induction k with
  | zero => rfl
  | succ k ih => rw [cntT_succ, h k (by omega), ih (fun j hj => h j (by omega))]; rfl

/-- Lists as sets. -/
def ofL (l : List Nat) : Nat := setP (fun j => decide (j ∈ l))

/-- The lowest ticks of a set, by their places. -/
def lowN (m k : Nat) : Nat := setP (fun j => m.testBit j && decide (cntT m j < k))
/-- The highest ones: all but the first k. -/
def highN (m k : Nat) : Nat := setP (fun j => m.testBit j && decide (k ≤ cntT m j))
theorem lowN_zero (m : Nat) : lowN m 0 = 0 := setP_zero (fun j _ => by simp)
theorem lowN_succ {m i k : Nat} (h : (ticks m)[i]? = some k) : withN (lowN m i) k = lowN m (i + 1) := by
  obtain ⟨hk, hb, hc⟩ := (tick_iff m i k).1 h
  unfold lowN
  rw [withN_setP _ hk]
  apply setP_congr
  intro j hj
  cases hbj : m.testBit j
  · have : ¬ k = j := by intro e; subst e; rw [hbj] at hb; cases hb
    simp [this]
  · have e := tick_eq h hbj hj
    by_cases ej : j = k
    · subst ej; simp [hc]
    · have : cntT m j ≠ i := fun e' => ej (e.1 e')
      have d : decide (cntT m j < i + 1) = decide (cntT m j < i) := by simp; omega
      have : ¬ k = j := fun e' => ej e'.symm
      simp [d, this]
theorem lowN_all (m : Nat) {k : Nat} (h : cnt m ≤ k) (hm : m < 18446744073709551616) : lowN m k = m := by
  symm
  refine eq_setP hm (fun j hj => ?_)
  cases hbj : m.testBit j
  · simp
  · have h1 := cntT_lt m hj hbj
    have e : cntT m 64 = cnt m := rfl
    have : cntT m j < k := by omega
    simp [this]
theorem highN_cnt (m : Nat) : highN m (cnt m) = 0 := setP_zero (fun j hj => by
  cases hbj : m.testBit j
  · simp
  · have := cntT_lt m hj hbj
    have e : cntT m 64 = cnt m := rfl
    simp; omega)
theorem highN_pred {m i k : Nat} (h : (ticks m)[i]? = some k) : withN (highN m (i + 1)) k = highN m i := by
  obtain ⟨hk, hb, hc⟩ := (tick_iff m i k).1 h
  unfold highN
  rw [withN_setP _ hk]
  apply setP_congr
  intro j hj
  cases hbj : m.testBit j
  · have : ¬ k = j := by intro e; subst e; rw [hbj] at hb; cases hb
    simp [this]
  · have e := tick_eq h hbj hj
    by_cases ej : j = k
    · subst ej; simp [hc]
    · have : cntT m j ≠ i := fun e' => ej (e.1 e')
      have d : decide (i + 1 ≤ cntT m j) = decide (i ≤ cntT m j) := by simp; omega
      have : ¬ k = j := fun e' => ej e'.symm
      simp [d, this]

theorem dec_not (c k : Nat) : decide (k ≤ c) = !decide (c < k) := by
  by_cases h : c < k
  · have : ¬ k ≤ c := by omega
    simp [h, this]
  · have : k ≤ c := by omega
    simp [h, this]

/-- A set less another one. -/
def lessN (a b : Nat) : Nat := setP (fun j => a.testBit j && !b.testBit j)
theorem less_low {m k : Nat} : lessN m (lowN m k) = highN m k := setP_congr (fun j hj => by
  unfold lowN
  rw [setP_bit, dec_not]
  cases hbj : m.testBit j
  · simp
  · simp [hj])
theorem less_high {m k : Nat} : lessN m (highN m k) = lowN m k := setP_congr (fun j hj => by
  unfold highN
  rw [setP_bit, dec_not]
  cases hbj : m.testBit j
  · simp
  · simp [hj])

/-- A set less its lowest tick. -/
theorem clear_bit : ∀ (k x : Nat), x.testBit k = true → (∀ i, i < k → x.testBit i = false) → ∀ j, (x &&& (x - 1)).testBit j = (x.testBit j && decide (j ≠ k))
  | 0, x, h, _, j => by
    have ho : x % 2 = 1 := by simpa using h
    rw [Nat.testBit_and]
    cases j with
    | zero => simp; omega
    | succ j =>
      rw [Nat.testBit_succ, Nat.testBit_succ]
      have : (x - 1) / 2 = x / 2 := by omega
      rw [this]
      simp
  | k + 1, x, h, hz, j => by
    have h0 : x % 2 = 0 := by have := hz 0 (by omega); simp at this; omega
    rw [Nat.testBit_succ] at h
    have hx : x / 2 ≠ 0 := ne_zero_of h
    have ih := clear_bit k (x / 2) h (fun i hi => by have := hz (i + 1) (by omega); rwa [Nat.testBit_succ] at this)
    cases j with
    | zero => rw [Nat.testBit_and]; simp; omega
    | succ j =>
      have := ih j
      rw [Nat.testBit_and] at this ⊢
      rw [Nat.testBit_succ, Nat.testBit_succ]
      have e : (x - 1) / 2 = x / 2 - 1 := by omega
      rw [e, this]
      simp
theorem high_clear {m i : Nat} (hi : i < cnt m) : highN m i &&& (highN m i - 1) = highN m (i + 1) := by
  obtain ⟨k, hk, hb, hc⟩ := tick_ex hi
  have h := (tick_iff m i k).2 ⟨hk, hb, hc⟩
  have b1 : (highN m i).testBit k = true := by unfold highN; rw [setP_bit]; simp [hk, hb, hc]
  have b2 : ∀ j, j < k → (highN m i).testBit j = false := by
    intro j hj
    unfold highN
    rw [setP_bit]
    cases hbj : m.testBit j
    · simp
    · have := cntT_lt m hj hbj
      simp; omega
  have hl : highN m i &&& (highN m i - 1) < 18446744073709551616 := Nat.lt_of_le_of_lt Nat.and_le_left (setP_lt _)
  refine eq_setP hl (fun j hj => ?_)
  rw [clear_bit k _ b1 b2 j]
  unfold highN
  rw [setP_bit]
  cases hbj : m.testBit j
  · simp
  · have e := tick_eq h hbj hj
    by_cases ej : j = k
    · subst ej; simp [hc]
    · have : cntT m j ≠ i := fun e' => ej (e.1 e')
      have d : decide (i + 1 ≤ cntT m j) = decide (i ≤ cntT m j) := by simp; omega
      simp [d, ej, hj]
theorem highN_zero {m : Nat} (hm : m < 18446744073709551616) : highN m 0 = m := by
  symm
  exact eq_setP hm (fun j _ => by simp)

/-- The lowest tick. -/
theorem ctz_low {x : Nat} (h0 : x ≠ 0) (hx : x < 18446744073709551616) : x.testBit (Lib.ctz 64 x) = true ∧ Lib.ctz 64 x < 64 ∧ ∀ i, i < Lib.ctz 64 x → x.testBit i = false := by
  obtain ⟨q, hq, hk⟩ := Lib.ctzFrom_spec 64 x (by omega) (by rw [two64]; exact hx)
  have e : Lib.ctz 64 x = Lib.ctzFrom 64 x := by simp [Lib.ctz, h0]
  rw [e]
  generalize Lib.ctzFrom 64 x = k at *
  refine ⟨?_, hk, fun i hi => ?_⟩
  · rw [hq, Nat.testBit_two_pow_mul]; simp
  · rw [hq, Nat.testBit_two_pow_mul]
    have : ¬ i ≥ k := by omega
    simp [this]
theorem low_unique {x a b : Nat} (ha : x.testBit a = true) (hb : x.testBit b = true) (ha' : ∀ i, i < a → x.testBit i = false) (hb' : ∀ i, i < b → x.testBit i = false) : a = b := by
  rcases Nat.lt_trichotomy a b with h | h | h
  · rw [hb' a h] at ha; cases ha
  · exact h
  · rw [ha' b h] at hb; cases hb
end Go.Proofs.Ytpjmdnhoiobedaa
