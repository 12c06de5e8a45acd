/-
  Wants as lists of pairs: which is ahead, one put in its place, all sorted, totals, checks.
  Conditions: none.
-/
import Derived.Laws.Bits64b
import Derived.Lib.TrailingZeros
import Derived.Test.YtincbilobmhgeaaProg
import Derived.WalkKit
import Derived.WalkLawsBesides
import Derived.Below
import Derived.Lib.Hide
import Derived.Handy
import Derived.ProofKit
import Derived.Deep.LoopGhost
import Derived.Deep.QuietTactic
import Derived.BigQuiet
import Derived.IntWalk
import Derived.LoopTactic
import Derived.OwnWalk
import Derived.Laws.MakeOwn
import Derived.Laws.Rows
import Derived.OpenShut
import Derived.Deep.RegionHeld3
import Derived.Deep.AppendLies

/-
  Numbers alone: sets of ticks as the bits of a number below 2^64.
  Conditions: those that each statement lists.
-/
set_option linter.unusedVariables false
namespace Go.Proofs.Ytincbilobmhgeaa

theorem two64 : (2 : Nat) ^ 64 = 18446744073709551616 := by decide

/-- All ticks of a frame. -/
def allN (k : Nat) : Nat := 2 ^ k - 1
theorem allN_bit (k j : Nat) : (allN k).testBit j = decide (j < k) := Nat.testBit_two_pow_sub_one k j
theorem allN_lt {k : Nat} (h : k ≤ 64) : allN k < 18446744073709551616 := by
  unfold allN
  have h1 : 2 ^ k ≤ 2 ^ 64 := Nat.pow_le_pow_right (by decide) h
  have h2 : 0 < 2 ^ k := Nat.two_pow_pos k
  rw [two64] at h1
  omega

/-- A set with one more tick. -/
def withN (m t : Nat) : Nat := m ||| 2 ^ t
theorem withN_bit (m t j : Nat) : (withN m t).testBit j = (m.testBit j || decide (t = j)) := by
  unfold withN
  rw [Nat.testBit_or, Nat.testBit_two_pow]
theorem pow_lt64 {t : Nat} (h : t < 64) : 2 ^ t < 18446744073709551616 := by
  rw [← two64]
  exact Nat.pow_lt_pow_right (by decide) h
theorem withN_lt {m t : Nat} (hm : m < 18446744073709551616) (ht : t < 64) : withN m t < 18446744073709551616 := by
  have := pow_lt64 ht
  rw [← two64] at hm this ⊢
  exact Nat.or_lt_two_pow hm this
theorem withN_of {m t : Nat} (h : m.testBit t = true) : withN m t = m := by
  apply Nat.eq_of_testBit_eq
  intro j
  rw [withN_bit]
  by_cases e : t = j
  · subst e; simp [h]
  · simp [e]
theorem add_pow {m t : Nat} (h : m.testBit t = false) : m + 2 ^ t = withN m t := by
  have hlo : m % 2 ^ t < 2 ^ t := Nat.mod_lt _ (Nat.two_pow_pos t)
  have hd := Nat.div_add_mod m (2 ^ t)
  have hev : m / 2 ^ t % 2 = 0 := by
    have := @Nat.testBit_eq_decide_div_mod_eq t m
    rw [h] at this
    have := of_decide_eq_false this.symm
    omega
  obtain ⟨q, hq⟩ : ∃ q, m / 2 ^ t = 2 * q := ⟨m / 2 ^ t / 2, by omega⟩
  have e1 : m + 2 ^ t = 2 ^ t * (2 * q + 1) + m % 2 ^ t := by
    rw [hq] at hd
    rw [Nat.mul_add, Nat.mul_one]
    omega
  apply Nat.eq_of_testBit_eq
  intro j
  rw [withN_bit, e1, Nat.testBit_two_pow_mul_add _ hlo]
  have e2 : m.testBit j = if j < t then (m % 2 ^ t).testBit j else (2 * q).testBit (j - t) := by
    have := Nat.testBit_two_pow_mul_add (2 * q) hlo j
    rw [hq] at hd
    rw [hd] at this
    exact this
  rw [e2]
  by_cases hj : j < t
  · have : ¬ t = j := by omega
    simp [hj, this]
  · simp only [hj, if_false]
    by_cases e : t = j
    · subst e
      simp
    · obtain ⟨s, hs⟩ : ∃ s, j - t = s + 1 := ⟨j - t - 1, by omega⟩
      rw [hs, Nat.testBit_succ, Nat.testBit_succ]
      have d1 : (2 * q + 1) / 2 = q := by omega
      have d2 : 2 * q / 2 = q := by omega
      rw [d1, d2]
      simp [e]

/-- The set of those below 64 of which p holds. -/
def setT (p : Nat → Bool) : Nat → Nat
  | 0 => 0
  | k + 1 => if p k = true then withN (setT p k) k else setT p k
def setP (p : Nat → Bool) : Nat := setT p 64
theorem setT_bit (p : Nat → Bool) : ∀ k j, (setT p k).testBit j = (decide (j < k) && p j) := by
  intro k
  induction k with
  | zero => intro j; simp [setT]
  | succ k ih =>
    intro j
    rw [setT]
    by_cases hk : p k = true
    · rw [if_pos hk, withN_bit, ih]
      by_cases e : k = j
      · subst e; simp [hk]
      · have : decide (j < k + 1) = decide (j < k) := by simp; omega
        rw [this]
        simp [e]
    · rw [if_neg hk, ih]
      by_cases e : k = j
      · subst e; simp at hk; simp [hk]
      · have : decide (j < k + 1) = decide (j < k) := by simp; omega
        rw [this]
theorem setP_bit (p : Nat → Bool) (j : Nat) : (setP p).testBit j = (decide (j < 64) && p j) := setT_bit p 64 j
theorem setP_lt (p : Nat → Bool) : setP p < 18446744073709551616 := by
  rw [← two64]
  apply Nat.lt_pow_two_of_testBit
  intro i hi
  rw [setP_bit]
  have : ¬ i < 64 := by omega
  simp [this]
theorem bit_big {x j : Nat} (hx : x < 18446744073709551616) (hj : 64 ≤ j) : x.testBit j = false :=
  Nat.testBit_lt_two_pow (Nat.lt_of_lt_of_le (by rw [← two64] at hx; exact hx) (Nat.pow_le_pow_right (by decide) hj))
theorem eq_setP {x : Nat} {p : Nat → Bool} (hx : x < 18446744073709551616) (h : ∀ j, j < 64 → x.testBit j = p j) : x = setP p := by
  apply Nat.eq_of_testBit_eq
  intro j
  rw [setP_bit]
  by_cases hj : j < 64
  · simp [hj, h j hj]
  · rw [bit_big hx (by omega)]; simp [hj]
theorem setP_congr {p q : Nat → Bool} (h : ∀ j, j < 64 → p j = q j) : setP p = setP q :=
  eq_setP (setP_lt p) (fun j hj => by rw [setP_bit]; simp [hj, h j hj])
theorem setP_zero {p : Nat → Bool} (h : ∀ j, j < 64 → p j = false) : setP p = 0 := by
  symm
  exact eq_setP (by decide) (fun j hj => by rw [h j hj]; exact Nat.zero_testBit j)
theorem eq_of_bits {x y : Nat} (hx : x < 18446744073709551616) (hy : y < 18446744073709551616) (h : ∀ j, j < 64 → x.testBit j = y.testBit j) : x = y :=
  (eq_setP hx h).trans (eq_setP hy (fun _ _ => rfl)).symm
theorem setP_self {m : Nat} (hm : m < 18446744073709551616) : m = setP (m.testBit ·) := eq_setP hm (fun _ _ => rfl)
theorem withN_setP (p : Nat → Bool) {t : Nat} (ht : t < 64) : withN (setP p) t = setP (fun j => p j || decide (t = j)) :=
  eq_setP (withN_lt (setP_lt p) ht) (fun j hj => by rw [withN_bit, setP_bit]; simp [hj])
theorem ne_zero_bit {x : Nat} (hx : x < 18446744073709551616) (h : x ≠ 0) : ∃ j, j < 64 ∧ x.testBit j = true := by
  apply Classical.byContradiction
  intro hn
  apply h
  refine eq_of_bits hx (by decide) (fun j hj => ?_)
  rw [Nat.zero_testBit]
  cases hb : x.testBit j
  · rfl
  · exact absurd ⟨j, hj, hb⟩ hn
theorem ne_zero_of {x j : Nat} (h : x.testBit j = true) : x ≠ 0 := by
  intro e
  subst e
  rw [Nat.zero_testBit] at h
  cases h

/-- The ticks below k, rising. -/
def ticksT (m k : Nat) : List Nat := (List.range k).filter (m.testBit ·)
def ticks (m : Nat) : List Nat := ticksT m 64
def cntT (m k : Nat) : Nat := (ticksT m k).length
def cnt (m : Nat) : Nat := cntT m 64
theorem ticksT_succ (m k : Nat) : ticksT m (k + 1) = if m.testBit k = true then ticksT m k ++ [k] else ticksT m k := by
  unfold ticksT
  rw [List.range_succ, List.filter_append]
  by_cases h : m.testBit k = true <;> simp [h]
theorem cntT_zero (m : Nat) : cntT m 0 = 0 := rfl
theorem cntT_succ (m k : Nat) : cntT m (k + 1) = cntT m k + (m.testBit k).toNat := by
  unfold cntT
  rw [ticksT_succ]
  by_cases h : m.testBit k = true <;> simp [h]
theorem cntT_mono (m : Nat) {a b : Nat} (h : a ≤ b) : cntT m a ≤ cntT m b := by
  induction b with
  | zero => have : a = 0 := by omega
            subst this; exact Nat.le_refl _
  | succ b ih =>
    rcases Nat.lt_or_ge b a with h1 | h1
    · have : a = b + 1 := by omega
      subst this; exact Nat.le_refl _
    · rw [cntT_succ]; have := ih h1; omega
theorem cntT_lt (m : Nat) {a b : Nat} (h : a < b) (ha : m.testBit a = true) : cntT m a < cntT m b := by
  have h1 := cntT_mono m (a := a + 1) (b := b) h
  rw [cntT_succ, ha] at h1
  simp at h1
  omega
theorem cntT_le (m k : Nat) : cntT m k ≤ k := by
  induction k with
  | zero => rw [cntT_zero]; exact Nat.le_refl _
  | succ k ih => rw [cntT_succ]; cases m.testBit k <;> simp <;> omega
theorem cnt_le (m : Nat) : cnt m ≤ 64 := cntT_le m 64
theorem length_ticks (m : Nat) : (ticks m).length = cnt m := rfl
theorem tickT_iff (m : Nat) : ∀ k i j, (ticksT m k)[i]? = some j ↔ j < k ∧ m.testBit j = true ∧ cntT m j = i := by
  intro k
  induction k with
  | zero => intro i j; simp [ticksT]
  | succ k ih =>
    intro i j
    rw [ticksT_succ]
    by_cases hk : m.testBit k = true
    · rw [if_pos hk, List.getElem?_append]
      by_cases hi : i < (ticksT m k).length
      · rw [if_pos hi, ih]
        constructor
        · rintro ⟨h1, h2, h3⟩; exact ⟨by omega, h2, h3⟩
        · rintro ⟨h1, h2, h3⟩
          refine ⟨?_, h2, h3⟩
          rcases Nat.lt_or_ge j k with h | h
          · exact h
          · have : j = k := by omega
            subst this
            have e : cntT m j = (ticksT m j).length := rfl
            omega
      · rw [if_neg hi]
        constructor
        · intro h
          have h0 : i - (ticksT m k).length = 0 := by
            rcases Nat.eq_zero_or_pos (i - (ticksT m k).length) with h0 | h0
            · exact h0
            · obtain ⟨s, hs⟩ : ∃ s, i - (ticksT m k).length = s + 1 := ⟨i - (ticksT m k).length - 1, by omega⟩
              rw [hs] at h; simp at h
          rw [h0] at h
          simp at h
          subst h
          refine ⟨by omega, hk, ?_⟩
          have e : cntT m k = (ticksT m k).length := rfl
          omega
        · rintro ⟨h1, h2, h3⟩
          have hjk : j = k := by
            rcases Nat.lt_or_ge j k with h | h
            · have := cntT_lt m h h2
              have e : cntT m k = (ticksT m k).length := rfl
              omega
            · omega
          subst hjk
          have e : cntT m j = (ticksT m j).length := rfl
          have : i - (ticksT m j).length = 0 := by omega
          rw [this]; rfl
    · rw [if_neg hk, ih]
      constructor
      · rintro ⟨h1, h2, h3⟩; exact ⟨by omega, h2, h3⟩
      · rintro ⟨h1, h2, h3⟩
        refine ⟨?_, h2, h3⟩
        rcases Nat.lt_or_ge j k with h | h
        · exact h
        · have : j = k := by omega
          subst this
          exact absurd h2 hk
theorem tick_iff (m i j : Nat) : (ticks m)[i]? = some j ↔ j < 64 ∧ m.testBit j = true ∧ cntT m j = i := tickT_iff m 64 i j
theorem tick_ex {m i : Nat} (h : i < cnt m) : ∃ j, j < 64 ∧ m.testBit j = true ∧ cntT m j = i := by
  have h' : i < (ticks m).length := h
  exact ⟨(ticks m)[i], (tick_iff m i _).1 (List.getElem?_eq_getElem h')⟩
theorem tick_eq {m i j k : Nat} (h : (ticks m)[i]? = some k) (hj : m.testBit j = true) (hj64 : j < 64) : cntT m j = i ↔ j = k := by
  constructor
  · intro e
    have := (tick_iff m i j).2 ⟨hj64, hj, e⟩
    rw [h] at this
    exact (Option.some.inj this).symm
  · intro e
    subst e
    exact ((tick_iff m i j).1 h).2.2
theorem cnt_pos {m j : Nat} (hj : j < 64) (h : m.testBit j = true) : 0 < cnt m := by
  have := cntT_lt m hj h
  unfold cnt
  omega
theorem cntT_zero_of {m : Nat} {k : Nat} (h : ∀ j, j < k → m.testBit j = false) : cntT m k = 0 := by
  induction k with
  | zero => rfl
  | succ k ih => rw [cntT_succ, h k (by omega), ih (fun j hj => h j (by omega))]; rfl

/-- Lists as sets. -/
def ofL (l : List Nat) : Nat := setP (fun j => decide (j ∈ l))

/-- The lowest ticks of a set, by their places. -/
def lowN (m k : Nat) : Nat := setP (fun j => m.testBit j && decide (cntT m j < k))
/-- The highest ones: all but the first k. -/
def highN (m k : Nat) : Nat := setP (fun j => m.testBit j && decide (k ≤ cntT m j))
theorem lowN_zero (m : Nat) : lowN m 0 = 0 := setP_zero (fun j _ => by simp)
theorem lowN_succ {m i k : Nat} (h : (ticks m)[i]? = some k) : withN (lowN m i) k = lowN m (i + 1) := by
  obtain ⟨hk, hb, hc⟩ := (tick_iff m i k).1 h
  unfold lowN
  rw [withN_setP _ hk]
  apply setP_congr
  intro j hj
  cases hbj : m.testBit j
  · have : ¬ k = j := by intro e; subst e; rw [hbj] at hb; cases hb
    simp [this]
  · have e := tick_eq h hbj hj
    by_cases ej : j = k
    · subst ej; simp [hc]
    · have : cntT m j ≠ i := fun e' => ej (e.1 e')
      have d : decide (cntT m j < i + 1) = decide (cntT m j < i) := by simp; omega
      have : ¬ k = j := fun e' => ej e'.symm
      simp [d, this]
theorem lowN_all (m : Nat) {k : Nat} (h : cnt m ≤ k) (hm : m < 18446744073709551616) : lowN m k = m := by
  symm
  refine eq_setP hm (fun j hj => ?_)
  cases hbj : m.testBit j
  · simp
  · have h1 := cntT_lt m hj hbj
    have e : cntT m 64 = cnt m := rfl
    have : cntT m j < k := by omega
    simp [this]
theorem highN_cnt (m : Nat) : highN m (cnt m) = 0 := setP_zero (fun j hj => by
  cases hbj : m.testBit j
  · simp
  · have := cntT_lt m hj hbj
    have e : cntT m 64 = cnt m := rfl
    simp; omega)
theorem highN_pred {m i k : Nat} (h : (ticks m)[i]? = some k) : withN (highN m (i + 1)) k = highN m i := by
  obtain ⟨hk, hb, hc⟩ := (tick_iff m i k).1 h
  unfold highN
  rw [withN_setP _ hk]
  apply setP_congr
  intro j hj
  cases hbj : m.testBit j
  · have : ¬ k = j := by intro e; subst e; rw [hbj] at hb; cases hb
    simp [this]
  · have e := tick_eq h hbj hj
    by_cases ej : j = k
    · subst ej; simp [hc]
    · have : cntT m j ≠ i := fun e' => ej (e.1 e')
      have d : decide (i + 1 ≤ cntT m j) = decide (i ≤ cntT m j) := by simp; omega
      have : ¬ k = j := fun e' => ej e'.symm
      simp [d, this]

theorem dec_not (c k : Nat) : decide (k ≤ c) = !decide (c < k) := by
  by_cases h : c < k
  · have : ¬ k ≤ c := by omega
    simp [h, this]
  · have : k ≤ c := by omega
    simp [h, this]

/-- A set less another one. -/
def lessN (a b : Nat) : Nat := setP (fun j => a.testBit j && !b.testBit j)
theorem less_low {m k : Nat} : lessN m (lowN m k) = highN m k := setP_congr (fun j hj => by
  unfold lowN
  rw [setP_bit, dec_not]
  cases hbj : m.testBit j
  · simp
  · simp [hj])
theorem less_high {m k : Nat} : lessN m (highN m k) = lowN m k := setP_congr (fun j hj => by
  unfold highN
  rw [setP_bit, dec_not]
  cases hbj : m.testBit j
  · simp
  · simp [hj])

/-- A set less its lowest tick. -/
theorem clear_bit : ∀ (k x : Nat), x.testBit k = true → (∀ i, i < k → x.testBit i = false) → ∀ j, (x &&& (x - 1)).testBit j = (x.testBit j && decide (j ≠ k))
  | 0, x, h, _, j => by
    have ho : x % 2 = 1 := by simpa using h
    rw [Nat.testBit_and]
    cases j with
    | zero => simp; omega
    | succ j =>
      rw [Nat.testBit_succ, Nat.testBit_succ]
      have : (x - 1) / 2 = x / 2 := by omega
      rw [this]
      simp
  | k + 1, x, h, hz, j => by
    have h0 : x % 2 = 0 := by have := hz 0 (by omega); simp at this; omega
    rw [Nat.testBit_succ] at h
    have hx : x / 2 ≠ 0 := ne_zero_of h
    have ih := clear_bit k (x / 2) h (fun i hi => by have := hz (i + 1) (by omega); rwa [Nat.testBit_succ] at this)
    cases j with
    | zero => rw [Nat.testBit_and]; simp; omega
    | succ j =>
      have := ih j
      rw [Nat.testBit_and] at this ⊢
      rw [Nat.testBit_succ, Nat.testBit_succ]
      have e : (x - 1) / 2 = x / 2 - 1 := by omega
      rw [e, this]
      simp
theorem high_clear {m i : Nat} (hi : i < cnt m) : highN m i &&& (highN m i - 1) = highN m (i + 1) := by
  obtain ⟨k, hk, hb, hc⟩ := tick_ex hi
  have h := (tick_iff m i k).2 ⟨hk, hb, hc⟩
  have b1 : (highN m i).testBit k = true := by unfold highN; rw [setP_bit]; simp [hk, hb, hc]
  have b2 : ∀ j, j < k → (highN m i).testBit j = false := by
    intro j hj
    unfold highN
    rw [setP_bit]
    cases hbj : m.testBit j
    · simp
    · have := cntT_lt m hj hbj
      simp; omega
  have hl : highN m i &&& (highN m i - 1) < 18446744073709551616 := Nat.lt_of_le_of_lt Nat.and_le_left (setP_lt _)
  refine eq_setP hl (fun j hj => ?_)
  rw [clear_bit k _ b1 b2 j]
  unfold highN
  rw [setP_bit]
  cases hbj : m.testBit j
  · simp
  · have e := tick_eq h hbj hj
    by_cases ej : j = k
    · subst ej; simp [hc]
    · have : cntT m j ≠ i := fun e' => ej (e.1 e')
      have d : decide (i + 1 ≤ cntT m j) = decide (i ≤ cntT m j) := by simp; omega
      simp [d, ej, hj]
theorem highN_zero {m : Nat} (hm : m < 18446744073709551616) : highN m 0 = m := by
  symm
  exact eq_setP hm (fun j _ => by simp)

/-- The lowest tick. -/
theorem ctz_low {x : Nat} (h0 : x ≠ 0) (hx : x < 18446744073709551616) : x.testBit (Lib.ctz 64 x) = true ∧ Lib.ctz 64 x < 64 ∧ ∀ i, i < Lib.ctz 64 x → x.testBit i = false := by
  obtain ⟨q, hq, hk⟩ := Lib.ctzFrom_spec 64 x (by omega) (by rw [two64]; exact hx)
  have e : Lib.ctz 64 x = Lib.ctzFrom 64 x := by simp [Lib.ctz, h0]
  rw [e]
  generalize Lib.ctzFrom 64 x = k at *
  refine ⟨?_, hk, fun i hi => ?_⟩
  · rw [hq, Nat.testBit_two_pow_mul]; simp
  · rw [hq, Nat.testBit_two_pow_mul]
    have : ¬ i ≥ k := by omega
    simp [this]
theorem low_unique {x a b : Nat} (ha : x.testBit a = true) (hb : x.testBit b = true) (ha' : ∀ i, i < a → x.testBit i = false) (hb' : ∀ i, i < b → x.testBit i = false) : a = b := by
  rcases Nat.lt_trichotomy a b with h | h | h
  · rw [hb' a h] at ha; cases ha
  · exact h
  · rw [ha' b h] at hb; cases hb
end Go.Proofs.Ytincbilobmhgeaa

/-
  A slice that reads as a list of wants; a row of wants of a call's own; what calls answer.
  Conditions: none.
-/
set_option linter.unusedVariables false
namespace Go.Proofs.Ytincbilobmhgeaa
open Go.RowKit

/-- A want: its unit and its share. -/
abbrev Sp := Int × Int
theorem Try.infoSpan : (Try.prog.info? 83).map (fun i => (i.zero, i.size, i.bytes)) = some (some (.agg #[.int .i64 0, .int .i64 0]), 2, 16) := by kernel_rfl
theorem Try.infoInt : (Try.prog.info? 3).map (fun i => (i.zero, i.size, i.bytes)) = some (some (.int .i64 0), 1, 8) := by kernel_rfl

/-- Two numbers lie at an address. -/
def PairAt (W : World) (b o : Nat) (p : Sp) : Prop := W.cell? ⟨b, o, none⟩ = some (.int .i64 p.1) ∧ W.cell? ⟨b, o + 1, none⟩ = some (.int .i64 p.2)

/-- The slice value reads as spans. -/
def SpansAt (W : World) (v : Value) (ps : List Sp) : Prop :=
  ∃ A c, v = .slice A ps.length c ∧ ps.length ≤ c ∧ ps.length ≤ 2000000 ∧ c ≤ 9223372036854775807 ∧
    (0 < ps.length → ∃ b off, A = some ⟨b, off, none⟩ ∧ b < W.heap.size ∧ ∀ (j : Nat) (p : Sp), ps[j]? = some p → PairAt W b (off + j * 2) p)
theorem SpansAt.nil (W : World) : SpansAt W (.slice none 0 0) [] := ⟨none, 0, rfl, Nat.le_refl _, by simp, by simp, fun h => absurd h (by simp)⟩
theorem SpansAt.len {W : World} {v : Value} {ps : List Sp} (h : SpansAt W v ps) : ps.length ≤ 2000000 := by obtain ⟨_, _, _, _, h, _⟩ := h; exact h
theorem PairAt.keep {W W' : World} {B b o : Nat} {p : Sp} (h : PairAt W b o p) (hb : Below B W W') (hlt : b < B) : PairAt W' b o p :=
  ⟨(hb.cell (p := ⟨b, o, none⟩) hlt).trans h.1, (hb.cell (p := ⟨b, o + 1, none⟩) hlt).trans h.2⟩
theorem SpansAt.keep {W W' : World} {v : Value} {ps : List Sp} (h : SpansAt W v ps) (hb : Below W.heap.size W W') : SpansAt W' v ps := by
  obtain ⟨A, c, h1, h2, h3, h4, h5⟩ := h
  refine ⟨A, c, h1, h2, h3, h4, fun hn => ?_⟩
  obtain ⟨b, off, e, hlt, hc⟩ := h5 hn
  exact ⟨b, off, e, Nat.lt_of_lt_of_le hlt hb.size, fun j x hx => (hc j x hx).keep hb hlt⟩
/-- The slice behind the first span. -/
theorem SpansAt.tail {W : World} {p : Sp} {ps : List Sp} {b off n c : Nat} (h : SpansAt W (.slice (some ⟨b, off, none⟩) n c) (p :: ps)) : SpansAt W (.slice (some ⟨b, off + 2, none⟩) (n - 1) (c - 1)) ps := by
  obtain ⟨A, c', h1, h2, h3, h4, h5⟩ := h
  injection h1 with g1 g2 g3
  subst g1 g2 g3
  simp only [List.length_cons] at *
  refine ⟨_, _, by rw [Nat.add_sub_cancel], by omega, by omega, by omega, fun hn => ?_⟩
  obtain ⟨b', off', e, hlt, hc⟩ := h5 (by omega)
  injection e with e
  injection e with e1 e2 e3
  subst e1 e2
  refine ⟨b, off + 2, rfl, hlt, fun j x hx => ?_⟩
  have := hc (j + 1) x (by simpa using hx)
  rwa [show off + (j + 1) * 2 = off + 2 + j * 2 by omega] at this

def spanCells (p : Sp) : List Value := [.int .i64 p.1, .int .i64 p.2]
def spansCells (ps : List Sp) : List Value := ps.flatMap spanCells
theorem spansCells_cons (p : Sp) (ps : List Sp) : spansCells (p :: ps) = .int .i64 p.1 :: .int .i64 p.2 :: spansCells ps := by simp [spansCells, spanCells]
theorem spansCells_append (ps qs : List Sp) : spansCells (ps ++ qs) = spansCells ps ++ spansCells qs := by simp [spansCells]
theorem spansCells_snoc (ps : List Sp) (p : Sp) : spansCells (ps ++ [p]) = spansCells ps ++ [.int .i64 p.1, .int .i64 p.2] := by
  simp [spansCells, spanCells]
theorem spansCells_length : ∀ (ps : List Sp), (spansCells ps).length = ps.length * 2
  | [] => rfl
  | p :: ps => by rw [spansCells_cons]; simp [spansCells_length ps]; omega
theorem spansCells_get : ∀ (ps : List Sp) (j : Nat) (p : Sp), ps[j]? = some p → (spansCells ps)[j * 2]? = some (.int .i64 p.1) ∧ (spansCells ps)[j * 2 + 1]? = some (.int .i64 p.2)
  | [], j, p, h => by simp at h
  | q :: ps, 0, p, h => by
    simp at h
    subst h
    exact ⟨rfl, rfl⟩
  | q :: ps, j + 1, p, h => by
    have h' : ps[j]? = some p := by simpa using h
    have ih := spansCells_get ps j p h'
    rw [spansCells_cons, show (j + 1) * 2 = j * 2 + 1 + 1 by omega]
    simpa using ih
theorem spansCells_one (ps : List Sp) : ∀ u ∈ spansCells ps, u.oneCell' = true := by
  intro u hu
  obtain ⟨p, _, hp⟩ := List.mem_flatMap.1 hu
  simp [spanCells] at hp
  rcases hp with rfl | rfl <;> rfl
/-- Where a cell of a row lies. -/
theorem spansCells_at {ps : List Sp} {k : Nat} {u : Value} (h : (spansCells ps)[k]? = some u) : ∃ j p, ps[j]? = some p ∧ ((k = j * 2 ∧ u = .int .i64 p.1) ∨ (k = j * 2 + 1 ∧ u = .int .i64 p.2)) := by
  have hk : k < ps.length * 2 := by rw [← spansCells_length]; exact (List.getElem?_eq_some_iff.1 h).1
  have hj : k / 2 < ps.length := by omega
  refine ⟨k / 2, ps[k / 2], List.getElem?_eq_getElem hj, ?_⟩
  obtain ⟨g1, g2⟩ := spansCells_get ps (k / 2) _ (List.getElem?_eq_getElem hj)
  rcases Nat.mod_two_eq_zero_or_one k with hm | hm
  · left
    have e : k = k / 2 * 2 := by omega
    refine ⟨e, ?_⟩
    rw [← e, h] at g1
    exact Option.some.inj g1
  · right
    have e : k = k / 2 * 2 + 1 := by omega
    refine ⟨e, ?_⟩
    rw [← e, h] at g2
    exact Option.some.inj g2
theorem spansCells_of {W : World} {b off : Nat} {ps : List Sp} (hc : ∀ (j : Nat) (p : Sp), ps[j]? = some p → PairAt W b (off + j * 2) p) : ∀ j u, (spansCells ps)[j]? = some u → W.cell? ⟨b, off + j, none⟩ = some u := by
  intro j u h
  obtain ⟨i, p, hp, ⟨rfl, rfl⟩ | ⟨rfl, rfl⟩⟩ := spansCells_at h
  · exact (hc i p hp).1
  · exact (hc i p hp).2
theorem spans_of_own {W : World} {base e : Nat} {v : Value} {ps : List Sp} (h : W.ownsRow base e 2 v ps.length (spansCells ps)) (hl : ps.length ≤ 2000000) : SpansAt W v ps := by
  obtain ⟨h1, h2⟩ := h
  rcases h2 with ⟨rfl, h0⟩ | ⟨g, cap, cur, rfl, hg, hh, hn, hc, hs, ht⟩
  · have : ps = [] := List.eq_nil_of_length_eq_zero h0
    subst this
    exact SpansAt.nil W
  · refine ⟨_, _, rfl, hn, hl, by unfold maxLen at hc; omega, fun _ => ⟨g, 0, rfl, ?_, fun j p hp => ?_⟩⟩
    · rcases Nat.lt_or_ge g W.heap.size with h' | h'
      · exact h'
      · rw [Array.getElem?_eq_none h'] at hh; cases hh
    · have hj : j < ps.length := (List.getElem?_eq_some_iff.1 hp).1
      obtain ⟨g1, g2⟩ := spansCells_get ps j p hp
      have key : ∀ (i : Nat) (u : Value), i < ps.length * 2 → (spansCells ps)[i]? = some u → W.cell? ⟨g, 0 + i, none⟩ = some u := by
        intro i u hi hu
        rw [Nat.zero_add, cell_of_row W g i _ _ (0, 0) hh, ← hu, ← ht, List.getElem?_take, if_pos hi]
        simp
      exact ⟨key _ _ (by omega) g1, key _ _ (by omega) g2⟩
/-- A row of a call's own that holds something: where it lies. -/
theorem own_lies {W : World} {base e : Nat} {v : Value} {ps : List Sp} (h : W.ownsRow base e 2 v ps.length (spansCells ps)) (hp : 0 < ps.length) :
    ∃ g cap, v = .slice (some ⟨g, 0, none⟩) ps.length cap ∧ base ≤ g ∧ g < W.heap.size ∧ ps.length ≤ cap ∧ cap ≤ maxLen ∧ (∀ j p, ps[j]? = some p → PairAt W g (j * 2) p) ∧ ∀ j, j < ps.length * 2 → W.frozen? ⟨g, j, none⟩ = false := by
  obtain ⟨h1, h2⟩ := h
  rcases h2 with ⟨rfl, h0⟩ | ⟨g, cap, cur, rfl, hg, hh, hn, hc, hs, ht⟩
  · omega
  · refine ⟨g, cap, rfl, hg, ?_, hn, hc, fun j p hpj => ?_, fun j _ => by simp [World.frozen?, hh]⟩
    · rcases Nat.lt_or_ge g W.heap.size with h' | h'
      · exact h'
      · rw [Array.getElem?_eq_none h'] at hh; cases hh
    · have hj : j < ps.length := (List.getElem?_eq_some_iff.1 hpj).1
      obtain ⟨g1, g2⟩ := spansCells_get ps j p hpj
      have key : ∀ (i : Nat) (u : Value), i < ps.length * 2 → (spansCells ps)[i]? = some u → W.cell? ⟨g, i, none⟩ = some u := by
        intro i u hi hu
        rw [cell_of_row W g i _ _ (0, 0) hh, ← hu, ← ht, List.getElem?_take, if_pos hi]
        simp
      exact ⟨key _ _ (by omega) g1, key _ _ (by omega) g2⟩
/-- A cell of a row of a call's own is stored into. -/
theorem own_set {W : World} {base e n g cap k : Nat} {xs : List Value} (h : W.ownsRow base e 2 (.slice (some ⟨g, 0, none⟩) n cap) n xs) (u : Value) :
    (W.setCell ⟨g, k, none⟩ u).ownsRow base e 2 (.slice (some ⟨g, 0, none⟩) n cap) n (xs.set k u) := by
  obtain ⟨h1, h2⟩ := h
  refine ⟨by rw [List.length_set]; exact h1, ?_⟩
  rcases h2 with ⟨h0, _⟩ | ⟨g', cap', cur, hv, hg, hh, hn, hc, hs, ht⟩
  · cases h0
  · injection hv with e1 e2 e3
    injection e1 with e1
    injection e1 with e1
    subst e1 e3
    refine .inr ⟨g, cap, cur.setIfInBounds k u, rfl, hg, ?_, hn, hc, by simpa using hs, ?_⟩
    · simp [World.setCell, Array.getElem?_modify, hh]
    · rw [← ht, Array.toList_setIfInBounds, List.take_set]
theorem spansCells_set : ∀ (ps : List Sp) (j : Nat) (p q : Sp), ps[j]? = some p → ((spansCells ps).set (j * 2) (.int .i64 q.1)).set (j * 2 + 1) (.int .i64 q.2) = spansCells (ps.set j q)
  | [], j, p, q, h => by simp at h
  | r :: ps, 0, p, q, h => by
    rw [List.set_cons_zero, spansCells_cons, spansCells_cons]
    rfl
  | r :: ps, j + 1, p, q, h => by
    rw [spansCells_cons, List.set_cons_succ, spansCells_cons, ← spansCells_set ps j p q (by simpa using h), show (j + 1) * 2 = j * 2 + 1 + 1 by omega]
    rfl
theorem spansCells_set2 : ∀ (ps : List Sp) (j : Nat) (p : Sp) (t : Int), ps[j]? = some p → (spansCells ps).set (j * 2 + 1) (.int .i64 t) = spansCells (ps.set j (p.1, t))
  | [], j, p, t, h => by simp at h
  | r :: ps, 0, p, t, h => by
    have : r = p := by simpa using h
    subst this
    rw [List.set_cons_zero, spansCells_cons, spansCells_cons]
    rfl
  | r :: ps, j + 1, p, t, h => by
    rw [spansCells_cons, show (j + 1) * 2 + 1 = (j * 2 + 1) + 1 + 1 by omega, List.set_cons_succ, List.set_cons_succ, spansCells_set2 ps j p t (by simpa using h), List.set_cons_succ, spansCells_cons]

/-- The cells of a span that was laid into a block of its own. -/
theorem news_two (W : World) (B : Nat) (hB : W.heap.size = B) (t : Nat) (a b : Int) : ∀ j u, [Value.int .i64 a, Value.int .i64 b][j]? = some u → (W.alloc (.cells #[.int .i64 a, .int .i64 b] t)).cell? ((⟨B, 0, none⟩ : Addr).add j) = some u := by
  subst hB
  exact World.news_of_block (heap_alloc_new W _)
theorem own_form {w : World} {base e size n : Nat} {v : Value} {xs : List Value} (h : w.ownsRow base e size v n xs) : ∃ A c, v = .slice A n c := by
  rcases h.2 with ⟨rfl, h0⟩ | ⟨g, cap, cur, rfl, _⟩
  · rw [h0]; exact ⟨_, _, rfl⟩
  · exact ⟨_, _, rfl⟩
theorem own_draw {w : World} {base e size n : Nat} {v : Value} {xs : List Value} (h : w.ownsRow base e size v n xs) (q : Nat) : (w.drewN q).ownsRow base e size v n xs := h
theorem below_grown5 {w w' : World} {row : Option Nat} {B : Nat} (hg : w.grownBy w' row) (hB : B ≤ w.heap.size) (hr : ∀ k, row = some k → B ≤ k) : Below B w w' := (Below.refl B w).grown hg hB hr
theorem own_base5 {w : World} {base e size n : Nat} {v : Value} {xs : List Value} (h : w.ownsRow base e size v n xs) : ∀ k, v.ownBlock = some k → base ≤ k := by
  intro k hk
  rcases h.2 with ⟨h1, _⟩ | ⟨g, cap, cur, h1, h2, _⟩
  · subst h1; cases hk
  · subst h1; cases hk; exact h2
theorem own_below5 {w w' : World} {base e size n : Nat} {v : Value} {xs : List Value} (h : w.ownsRow base e size v n xs) (hb : Below w.heap.size w w') : w'.ownsRow base e size v n xs := by
  obtain ⟨h1, h2⟩ := h
  refine ⟨h1, ?_⟩
  rcases h2 with h2 | ⟨g, cap, cur, hv, hg, hh, r⟩
  · exact .inl h2
  · exact .inr ⟨g, cap, cur, hv, hg, by rw [hb.block g (Array.getElem?_eq_some_iff.1 hh).1]; exact hh, r⟩
theorem own_mono5 {w : World} {base base' e size n : Nat} {v : Value} {xs : List Value} (h : w.ownsRow base e size v n xs) (hb : base' ≤ base) : w.ownsRow base' e size v n xs := by
  obtain ⟨h1, h2⟩ := h
  refine ⟨h1, ?_⟩
  rcases h2 with h2 | ⟨g, cap, cur, hv, hg, r⟩
  · exact .inl h2
  · exact .inr ⟨g, cap, cur, hv, Nat.le_trans hb hg, r⟩

/-- What a call answers that makes memory, and leaves all that was. -/
def RetB (v : Value) (w : World) (e : Ending) (w' : World) : Prop := e = .returned v ∧ Below w.heap.size w w'
/-- Spans that a call answers. -/
def RetS (ps : List Sp) (w : World) (e : Ending) (w' : World) : Prop := ∃ v, e = .returned v ∧ SpansAt w' v ps ∧ Below w.heap.size w w'
/-- A row of spans that a call answers, its own from 'base' on. -/
def RetO (base ty : Nat) (ps : List Sp) (w : World) (e : Ending) (w' : World) : Prop := ∃ v, e = .returned v ∧ w'.ownsRow base ty 2 v ps.length (spansCells ps) ∧ Below base w w'
theorem below_drewN {B : Nat} {a w : World} (h : Below B a w) (n : Nat) : Below B a (w.drewN n) := ⟨h.os, h.tape, h.output, h.size, h.block⟩
theorem ex_at {α : Type} {xs : List α} {k : Nat} (h : k < xs.length) : ∃ x, xs[k]? = some x := ⟨xs[k], List.getElem?_eq_getElem h⟩
end Go.Proofs.Ytincbilobmhgeaa

/-
  Wants as lists of pairs: which is ahead, one put in its place, all sorted, totals, checks.
  Conditions: none.
-/
set_option linter.unusedVariables false
namespace Go.Proofs.Ytincbilobmhgeaa

/-- One want precedes another. -/
def aheadB (a b : Sp) : Bool := decide (b.2 < a.2) || (decide (a.2 = b.2) && decide (a.1 < b.1))
theorem ahead_iff (a b : Sp) : aheadB a b = true ↔ b.2 < a.2 ∨ (a.2 = b.2 ∧ a.1 < b.1) := by simp [aheadB]
theorem ahead_no (a b : Sp) : aheadB a b = false ↔ ¬ (b.2 < a.2 ∨ (a.2 = b.2 ∧ a.1 < b.1)) := by rw [← ahead_iff]; simp
theorem ahead_irr (a : Sp) : aheadB a a = false := by rw [ahead_no]; omega
theorem ahead_asym {a b : Sp} (h : aheadB a b = true) : aheadB b a = false := by rw [ahead_iff] at h; rw [ahead_no]; omega
theorem ahead_trans {a b c : Sp} (h : aheadB a b = true) (h2 : aheadB b c = true) : aheadB a c = true := by rw [ahead_iff] at *; omega
theorem ahead_trans_no {a b c : Sp} (h : aheadB b a = false) (h2 : aheadB c b = false) : aheadB c a = false := by rw [ahead_no] at *; omega
theorem ahead_eq {a b : Sp} (h : aheadB a b = false) (h2 : aheadB b a = false) : a = b := by
  rw [ahead_no] at *
  exact Prod.ext (by omega) (by omega)
theorem ahead_one {a b : Sp} (h : a ≠ b) : aheadB a b = !aheadB b a := by
  cases h1 : aheadB a b <;> cases h2 : aheadB b a <;> simp
  · exact h (ahead_eq h1 h2)
  · rw [ahead_asym h1] at h2; cases h2

/-- In order: none stands behind one that it precedes. -/
def SortedS (l : List Sp) : Prop := l.Pairwise fun x y => aheadB y x = false
def putT (w : Sp) : List Sp → List Sp
  | [] => [w]
  | x :: r => if aheadB w x then w :: x :: r else x :: putT w r
def sortT (l : List Sp) : List Sp := l.foldl (fun s w => putT w s) []
theorem putT_perm (w : Sp) : ∀ l : List Sp, (putT w l).Perm (w :: l)
  | [] => List.Perm.refl _
  | x :: r => by
    unfold putT
    split
    · exact List.Perm.refl _
    · exact ((putT_perm w r).cons x).trans (List.Perm.swap w x r)
theorem putT_length (w : Sp) (l : List Sp) : (putT w l).length = l.length + 1 := (putT_perm w l).length_eq
theorem putT_sorted (w : Sp) : ∀ {l : List Sp}, SortedS l → SortedS (putT w l)
  | [], _ => List.pairwise_singleton _ _
  | x :: r, h => by
    obtain ⟨h1, h2⟩ := List.pairwise_cons.1 h
    unfold putT
    split
    · rename_i hw
      refine List.pairwise_cons.2 ⟨fun y hy => ?_, h⟩
      rcases List.mem_cons.1 hy with rfl | hy
      · exact ahead_asym hw
      · exact ahead_trans_no (ahead_asym hw) (h1 y hy)
    · rename_i hw
      refine List.pairwise_cons.2 ⟨fun y hy => ?_, putT_sorted w h2⟩
      rcases List.mem_cons.1 ((putT_perm w r).mem_iff.1 hy) with rfl | hy
      · simpa using hw
      · exact h1 y hy
theorem fold_perm : ∀ (l s : List Sp), (l.foldl (fun s w => putT w s) s).Perm (s ++ l)
  | [], s => by simp
  | w :: l, s => by
    rw [List.foldl_cons]
    refine (fold_perm l (putT w s)).trans (((putT_perm w s).append_right l).trans ?_)
    exact (List.perm_middle (a := w) (l₁ := s) (l₂ := l)).symm
theorem fold_sorted : ∀ (l : List Sp) {s : List Sp}, SortedS s → SortedS (l.foldl (fun s w => putT w s) s)
  | [], _, h => h
  | w :: l, _, h => by rw [List.foldl_cons]; exact fold_sorted l (putT_sorted w h)
theorem sortT_perm (l : List Sp) : (sortT l).Perm l := by simpa [sortT] using fold_perm l []
theorem sortT_sorted (l : List Sp) : SortedS (sortT l) := fold_sorted l List.Pairwise.nil
theorem sortT_length (l : List Sp) : (sortT l).length = l.length := (sortT_perm l).length_eq
/-- There is one order. -/
theorem sorted_unique : ∀ {a b : List Sp}, SortedS a → SortedS b → a.Perm b → a = b
  | [], b, _, _, h => (List.nil_perm.1 h).symm
  | x :: a, [], _, _, h => by have := h.length_eq; simp at this
  | x :: a, y :: b, ha, hb, h => by
    obtain ⟨a1, a2⟩ := List.pairwise_cons.1 ha
    obtain ⟨b1, b2⟩ := List.pairwise_cons.1 hb
    have e : x = y := by
      rcases List.mem_cons.1 (h.mem_iff.1 List.mem_cons_self) with e | hx
      · exact e
      · rcases List.mem_cons.1 (h.mem_iff.2 List.mem_cons_self) with e | hy
        · exact e.symm
        · exact ahead_eq (b1 x hx) (a1 y hy)
    subst e
    rw [sorted_unique a2 b2 (h.cons_inv)]
theorem sort_eq {a b : List Sp} (h : SortedS a) (hp : a.Perm b) : a = sortT b := sorted_unique h (sortT_sorted b) (hp.trans (sortT_perm b).symm)
theorem sortT_self {a : List Sp} (h : SortedS a) : sortT a = a := (sort_eq h (List.Perm.refl a)).symm
theorem sortT_snoc (l : List Sp) (w : Sp) : sortT (l ++ [w]) = putT w (sortT l) := by simp [sortT]

/-- Where a want goes: ahead of the first one that it precedes. -/
def FirstAhead (w : Sp) (l : List Sp) (k : Nat) : Prop := k ≤ l.length ∧ (∀ j x, j < k → l[j]? = some x → aheadB w x = false) ∧ ∀ x, l[k]? = some x → aheadB w x = true
theorem put_at (w : Sp) : ∀ {l : List Sp} {k : Nat}, FirstAhead w l k → putT w l = l.take k ++ [w] ++ l.drop k
  | [], k, h => by
    obtain ⟨h1, _⟩ := h
    have : k = 0 := by simpa using h1
    subst this
    rfl
  | x :: r, 0, h => by
    have hx := h.2.2 x rfl
    unfold putT
    rw [if_pos hx]
    rfl
  | x :: r, k + 1, h => by
    have hx := h.2.1 0 x (by omega) rfl
    unfold putT
    rw [if_neg (by rw [hx]; decide)]
    have ih := put_at w (l := r) (k := k) ⟨by have := h.1; simp at this; omega, fun j y hj hy => h.2.1 (j + 1) y (by omega) (by simpa using hy), fun y hy => h.2.2 y (by simpa using hy)⟩
    rw [ih]
    rfl

/-- What is left without a unit. -/
def withoutT (u : Int) (l : List Sp) : List Sp := l.filter fun s => !decide (s.1 = u)

/-- Ints. -/
def IntS (s : Sp) : Prop := (-9223372036854775808 ≤ s.1 ∧ s.1 ≤ 9223372036854775807) ∧ (-9223372036854775808 ≤ s.2 ∧ s.2 ≤ 9223372036854775807)
def IntsS (l : List Sp) : Prop := ∀ s ∈ l, IntS s
theorem IntsS.take {l : List Sp} (h : IntsS l) (n : Nat) : IntsS (l.take n) := fun s hs => h s (List.mem_of_mem_take hs)
theorem IntsS.at_ {l : List Sp} (h : IntsS l) {j : Nat} {s : Sp} (hj : l[j]? = some s) : IntS s := h s (List.mem_of_getElem? hj)

/-- A sum, or that it runs over. -/
def addO (n s : Int) : Option Int := if -9223372036854775808 ≤ n + s ∧ n + s ≤ 9223372036854775807 then some (n + s) else none
def totL : Int → List Sp → Option Int
  | t, [] => some t
  | t, y :: r => match addO t y.2 with
    | none => none
    | some t' => totL t' r
def totT (l : List Sp) : Option Int := totL 0 l
theorem totL_some {t t' : Int} {y : Sp} {r : List Sp} (h : addO t y.2 = some t') : totL t (y :: r) = totL t' r := by simp [totL, h]
theorem totL_none {t : Int} {y : Sp} {r : List Sp} (h : addO t y.2 = none) : totL t (y :: r) = none := by simp [totL, h]
theorem drop_of {l : List Sp} {i : Nat} {y : Sp} (h : l[i]? = some y) : l.drop i = y :: l.drop (i + 1) := by
  obtain ⟨h1, h2⟩ := List.getElem?_eq_some_iff.1 h
  rw [List.drop_eq_getElem_cons h1, h2]

/-- Units. -/
def isTaskB (u : Int) : Bool := decide (1 ≤ u) && decide (u ≤ 200)
def isGroupB (u : Int) : Bool := decide (1 ≤ u) && decide (u ≤ 40)
def isU (u : Int) : Bool := (decide (1 ≤ u) && decide (u ≤ 200)) || (decide (1001 ≤ u) && decide (u ≤ 1040))
/-- What is wrong with a want behind others. -/
def chkE (f : Int) (b : List Sp) (y : Sp) : Int := if isU y.1 = false then 20 else if y.2 < 1 ∨ f < y.2 then 21 else if b.any (fun s => decide (s.1 = y.1)) then 11 else 0
def chkL (f : Int) : List Sp → List Sp → Int
  | _, [] => 0
  | b, y :: r => if chkE f b y = 0 then chkL f (b ++ [y]) r else chkE f b y
def chkT (f : Int) (l : List Sp) : Int := if f < 2 ∨ 64 < f then 1 else chkL f [] l
theorem chk_ok {f : Int} {l : List Sp} {i : Nat} {y : Sp} {R : Int} (h : l[i]? = some y) (hc : chkE f (l.take i) y = 0) (hR : chkL f (l.take i) (l.drop i) = R) : chkL f (l.take (i + 1)) (l.drop (i + 1)) = R := by
  rw [drop_of h, chkL, if_pos hc] at hR
  rw [List.take_add_one, h]
  exact hR
theorem chk_bad {f : Int} {l : List Sp} {i : Nat} {y : Sp} {R : Int} (h : l[i]? = some y) (hc : chkE f (l.take i) y ≠ 0) (hR : chkL f (l.take i) (l.drop i) = R) : R = chkE f (l.take i) y := by
  rw [drop_of h, chkL, if_neg hc] at hR
  exact hR.symm
theorem chkE_id {f : Int} {b : List Sp} {y : Sp} (h : isU y.1 = false) : chkE f b y = 20 := by simp [chkE, h]
theorem chkE_share {f : Int} {b : List Sp} {y : Sp} (h : isU y.1 = true) (h2 : y.2 < 1 ∨ f < y.2) : chkE f b y = 21 := by simp [chkE, h, h2]
theorem chkE_two {f : Int} {b : List Sp} {y : Sp} (h : isU y.1 = true) (h1 : ¬ y.2 < 1) (h2 : ¬ f < y.2) (h3 : b.any (fun s => decide (s.1 = y.1)) = true) : chkE f b y = 11 := by
  unfold chkE
  rw [if_neg (by rw [h]; decide), if_neg (by omega), if_pos h3]
theorem chkE_ok {f : Int} {b : List Sp} {y : Sp} (h : isU y.1 = true) (h1 : ¬ y.2 < 1) (h2 : ¬ f < y.2) (h3 : b.any (fun s => decide (s.1 = y.1)) = false) : chkE f b y = 0 := by
  unfold chkE
  rw [if_neg (by rw [h]; decide), if_neg (by omega), if_neg (by rw [h3]; decide)]

/-- The page's example. -/
theorem ex_sort : sortT [(3, 2), (5, 7), (1, 2)] = [(5, 7), (1, 2), (3, 2)] := by decide
theorem ex_total : totT [(5, 7), (1, 2), (3, 2)] = some 11 := by decide
end Go.Proofs.Ytincbilobmhgeaa
