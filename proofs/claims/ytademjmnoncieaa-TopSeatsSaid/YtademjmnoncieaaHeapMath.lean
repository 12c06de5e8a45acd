/-
  A heap in numbers: an order, a row in which each precedes those below it, and what becomes of it when one is moved up or down.
  Conditions: none.
-/
import Derived.Lib.Hide
set_option linter.unusedVariables false
namespace Go.Proofs.Ytademjmnoncieaa

/-- Who is before whom, among those of P. -/
structure Ordr (P : Nat → Prop) (lt : Nat → Nat → Prop) : Prop where
  irr : ∀ i, ¬ lt i i
  tot : ∀ i j, P i → P j → i ≠ j → lt i j ∨ lt j i
  tr : ∀ i j k, P i → P j → P k → lt i j → lt j k → lt i k

theorem Ordr.asym {P : Nat → Prop} {lt : Nat → Nat → Prop} (o : Ordr P lt) {i j : Nat} (hi : P i) (hj : P j) (h : lt i j) : ¬ lt j i := fun h' => o.irr i (o.tr i j i hi hj hi h h')
/-- i no later than j, j no later than k. -/
theorem Ordr.le {P : Nat → Prop} {lt : Nat → Nat → Prop} (o : Ordr P lt) {i j k : Nat} (hi : P i) (hj : P j) (hk : P k) (h1 : ¬ lt j i) (h2 : ¬ lt k j) : ¬ lt k i := by
  intro h
  by_cases e : i = j
  · subst e; exact h2 h
  · rcases o.tot i j hi hj e with h3 | h3
    · exact h2 (o.tr k i j hk hi hj h h3)
    · exact h1 h3

/-- Fractions, then numbers. -/
def ahead (num den : Nat → Nat) (i j : Nat) : Prop := num i * den j < num j * den i ∨ (num i * den j = num j * den i ∧ i < j)

theorem frac_lt_le {a p b q c r : Nat} (hp : 0 < p) (hq : 0 < q) (hr : 0 < r) (h1 : a * q < b * p) (h2 : b * r ≤ c * q) : a * r < c * p := by
  have e1 : a * q * r < b * p * r := Nat.mul_lt_mul_of_pos_right h1 hr
  have e2 : b * r * p ≤ c * q * p := Nat.mul_le_mul_right p h2
  have f1 : a * q * r = a * r * q := by rw [Nat.mul_assoc, Nat.mul_comm q r, ← Nat.mul_assoc]
  have f2 : b * p * r = b * r * p := by rw [Nat.mul_assoc, Nat.mul_comm p r, ← Nat.mul_assoc]
  have f3 : c * q * p = c * p * q := by rw [Nat.mul_assoc, Nat.mul_comm q p, ← Nat.mul_assoc]
  exact Nat.lt_of_mul_lt_mul_right (a := q) (by omega)
theorem frac_le_lt {a p b q c r : Nat} (hp : 0 < p) (hq : 0 < q) (hr : 0 < r) (h1 : a * q ≤ b * p) (h2 : b * r < c * q) : a * r < c * p := by
  have e1 : a * q * r ≤ b * p * r := Nat.mul_le_mul_right r h1
  have e2 : b * r * p < c * q * p := Nat.mul_lt_mul_of_pos_right h2 hp
  have f1 : a * q * r = a * r * q := by rw [Nat.mul_assoc, Nat.mul_comm q r, ← Nat.mul_assoc]
  have f2 : b * p * r = b * r * p := by rw [Nat.mul_assoc, Nat.mul_comm p r, ← Nat.mul_assoc]
  have f3 : c * q * p = c * p * q := by rw [Nat.mul_assoc, Nat.mul_comm q p, ← Nat.mul_assoc]
  exact Nat.lt_of_mul_lt_mul_right (a := q) (by omega)
theorem frac_eq {a p b q c r : Nat} (hq : 0 < q) (h1 : a * q = b * p) (h2 : b * r = c * q) : a * r = c * p := by
  have e1 : a * q * r = b * p * r := by rw [h1]
  have e2 : b * r * p = c * q * p := by rw [h2]
  have f1 : a * q * r = a * r * q := by rw [Nat.mul_assoc, Nat.mul_comm q r, ← Nat.mul_assoc]
  have f2 : b * p * r = b * r * p := by rw [Nat.mul_assoc, Nat.mul_comm p r, ← Nat.mul_assoc]
  have f3 : c * q * p = c * p * q := by rw [Nat.mul_assoc, Nat.mul_comm q p, ← Nat.mul_assoc]
  exact Nat.eq_of_mul_eq_mul_right hq (by omega)

theorem ahead_ordr (num den : Nat → Nat) : Ordr (fun i => 0 < den i) (ahead num den) where
  irr := fun i h => by rcases h with h | ⟨_, h⟩ <;> omega
  tot := fun i j hi hj hne => by unfold ahead; omega
  tr := fun i j k hi hj hk h1 h2 => by
    rcases h1 with h1 | ⟨h1, h1'⟩ <;> rcases h2 with h2 | ⟨h2, h2'⟩
    · exact .inl (frac_lt_le hi hj hk h1 (Nat.le_of_lt h2))
    · exact .inl (frac_lt_le hi hj hk h1 (Nat.le_of_eq h2))
    · exact .inl (frac_le_lt hi hj hk (Nat.le_of_eq h1) h2)
    · exact .inr ⟨frac_eq hj h1 h2, by omega⟩
theorem ahead_congr {num den num' den' : Nat → Nat} {i j : Nat} (h1 : num' i = num i) (h2 : den' i = den i) (h3 : num' j = num j) (h4 : den' j = den j) : ahead num' den' i j ↔ ahead num den i j := by
  unfold ahead; rw [h1, h2, h3, h4]
instance (num den : Nat → Nat) (i j : Nat) : Decidable (ahead num den i j) := by unfold ahead; infer_instance

/-- Who stands at i does not precede who stands right above. -/
def Edge (lt : Nat → Nat → Prop) (L : Nat → Nat) (i : Nat) : Prop := ¬ lt (L i) (L ((i - 1) / 2))
/-- Each precedes those below. -/
def HeapOrd (lt : Nat → Nat → Prop) (L : Nat → Nat) (m : Nat) : Prop := ∀ i, 0 < i → i < m → Edge lt L i
/-- Those right below a do not precede who stands right above a. -/
def Over (lt : Nat → Nat → Prop) (L : Nat → Nat) (m a : Nat) : Prop := 0 < a → ∀ c, 0 < c → c < m → (c - 1) / 2 = a → ¬ lt (L c) (L ((a - 1) / 2))
/-- Only a may stand wrong. -/
def ButOne (lt : Nat → Nat → Prop) (L : Nat → Nat) (m a : Nat) : Prop := (∀ i, 0 < i → i < m → i ≠ a → (i - 1) / 2 ≠ a → Edge lt L i) ∧ Over lt L m a
/-- Only those right below a may stand wrong. -/
def ButBelow (lt : Nat → Nat → Prop) (L : Nat → Nat) (m a : Nat) : Prop := (∀ i, 0 < i → i < m → (i - 1) / 2 ≠ a → Edge lt L i) ∧ Over lt L m a

def swapF (L : Nat → Nat) (a b : Nat) : Nat → Nat := fun i => if i = a then L b else if i = b then L a else L i
theorem swapF_left (L : Nat → Nat) (a b : Nat) : swapF L a b a = L b := by simp [swapF]
theorem swapF_right (L : Nat → Nat) (a b : Nat) : swapF L a b b = L a := by
  unfold swapF; by_cases h : b = a <;> simp [h]
theorem swapF_other {L : Nat → Nat} {a b i : Nat} (h1 : i ≠ a) (h2 : i ≠ b) : swapF L a b i = L i := by simp [swapF, h1, h2]
theorem swapF_all {Q : Nat → Prop} {L : Nat → Nat} {m a b : Nat} (ha : a < m) (hb : b < m) (h : ∀ i, i < m → Q (L i)) : ∀ i, i < m → Q (swapF L a b i) := by
  intro i hi
  unfold swapF
  split
  · exact h b hb
  · split
    · exact h a ha
    · exact h i hi

theorem rise_step {P : Nat → Prop} {lt : Nat → Nat → Prop} {L : Nat → Nat} {m a : Nat} (o : Ordr P lt) (hP : ∀ i, i < m → P (L i)) (h : ButOne lt L m a) (h0 : 0 < a) (ha : a < m)
    (hl : lt (L a) (L ((a - 1) / 2))) : ButOne lt (swapF L a ((a - 1) / 2)) m ((a - 1) / 2) := by
  obtain ⟨h1, h2⟩ := h
  have hp : (a - 1) / 2 < a := by omega
  generalize hpe : (a - 1) / 2 = p at *
  refine ⟨fun i i0 im i1 i2 => ?_, fun p0 c c0 cm cp => ?_⟩
  · have i3 : i ≠ a := fun e => by subst e; omega
    unfold Edge
    rw [swapF_other i3 i1]
    by_cases e : (i - 1) / 2 = a
    · rw [e, swapF_left, ← hpe]
      exact h2 h0 i i0 im e
    · rw [swapF_other e i2]
      exact h1 i i0 im i3 e
  · have q1 : (p - 1) / 2 ≠ a := by omega
    have q2 : (p - 1) / 2 ≠ p := by omega
    rw [swapF_other q1 q2]
    have hup : ¬ lt (L p) (L ((p - 1) / 2)) := h1 p p0 (by omega) (by omega) (by omega)
    by_cases e : c = a
    · subst e
      rw [swapF_left]
      exact hup
    · rw [swapF_other e (by omega)]
      have hc : ¬ lt (L c) (L ((c - 1) / 2)) := h1 c c0 cm e (by omega)
      rw [cp] at hc
      exact o.le (hP _ (by omega)) (hP _ (by omega)) (hP _ cm) hup hc

theorem rise_done {lt : Nat → Nat → Prop} {L : Nat → Nat} {m a : Nat} (h : ButOne lt L m a) (hd : a = 0 ∨ ¬ lt (L a) (L ((a - 1) / 2))) : ButBelow lt L m a := by
  refine ⟨fun i i0 im i1 => ?_, h.2⟩
  by_cases e : i = a
  · subst e
    rcases hd with hd | hd
    · omega
    · exact hd
  · exact h.1 i i0 im e i1

theorem sink_step {P : Nat → Prop} {lt : Nat → Nat → Prop} {L : Nat → Nat} {m a f : Nat} (o : Ordr P lt) (hP : ∀ i, i < m → P (L i)) (h : ButBelow lt L m a) (ha : a < m) (hf : f < m) (hf0 : 0 < f)
    (hfa : (f - 1) / 2 = a) (hl : lt (L f) (L a)) (hs : ∀ c, 0 < c → c < m → (c - 1) / 2 = a → ¬ lt (L c) (L f)) : ButBelow lt (swapF L a f) m f := by
  obtain ⟨h1, h2⟩ := h
  refine ⟨fun i i0 im i1 => ?_, fun _ c c0 cm cp => ?_⟩
  · unfold Edge
    by_cases e : (i - 1) / 2 = a
    · rw [e, swapF_left]
      by_cases e2 : i = f
      · subst e2
        rw [swapF_right]
        exact o.asym (hP _ hf) (hP _ ha) hl
      · rw [swapF_other (by omega) e2]
        exact hs i i0 im e
    · rw [swapF_other e i1]
      by_cases e2 : i = a
      · subst e2
        rw [swapF_left]
        exact h2 i0 f hf0 hf hfa
      · rw [swapF_other e2 (by omega)]
        exact h1 i i0 im e
  · rw [hfa, swapF_left, swapF_other (by omega) (by omega)]
    have := h1 c c0 cm (by omega)
    unfold Edge at this
    rwa [cp] at this

theorem sink_done {lt : Nat → Nat → Prop} {L : Nat → Nat} {m a : Nat} (h : ButBelow lt L m a) (hs : ∀ c, 0 < c → c < m → (c - 1) / 2 = a → ¬ lt (L c) (L a)) : HeapOrd lt L m := by
  intro i i0 im
  by_cases e : (i - 1) / 2 = a
  · unfold Edge
    rw [e]
    exact hs i i0 im e
  · exact h.1 i i0 im e

/-- Nobody precedes the first one. -/
theorem HeapOrd.first {P : Nat → Prop} {lt : Nat → Nat → Prop} {L : Nat → Nat} {m : Nat} (o : Ordr P lt) (hP : ∀ i, i < m → P (L i)) (h : HeapOrd lt L m) : ∀ i, i < m → ¬ lt (L i) (L 0) := by
  intro i
  induction i using Nat.strongRecOn with
  | ind i ih =>
    intro hi
    by_cases h0 : i = 0
    · subst h0; exact o.irr _
    · exact o.le (hP _ (by omega)) (hP _ (by omega)) (hP _ hi) (ih _ (by omega) (by omega)) (h i (by omega) hi)

/-- One's key turned: only its place may be wrong. -/
theorem HeapOrd.touched {P : Nat → Prop} {lt lt' : Nat → Nat → Prop} {L : Nat → Nat} {m a : Nat} (o : Ordr P lt) (hP : ∀ i, i < m → P (L i)) (h : HeapOrd lt L m) (ha : a < m)
    (hc : ∀ i j, i < m → j < m → i ≠ a → j ≠ a → (lt' (L i) (L j) ↔ lt (L i) (L j))) : ButOne lt' L m a := by
  refine ⟨fun i i0 im i1 i2 => ?_, fun a0 c c0 cm cp => ?_⟩
  · unfold Edge
    rw [hc i _ im (by omega) i1 i2]
    exact h i i0 im
  · rw [hc c _ cm (by omega) (by omega) (by omega)]
    have k1 := h c c0 cm
    unfold Edge at k1
    rw [cp] at k1
    exact o.le (hP _ (by omega)) (hP _ ha) (hP _ cm) (h a a0 ha) k1
/-- The last one laid at a, and the row cut. -/
theorem HeapOrd.cut {P : Nat → Prop} {lt lt' : Nat → Nat → Prop} {L : Nat → Nat} {m a : Nat} (o : Ordr P lt) (hP : ∀ i, i < m + 1 → P (L i)) (h : HeapOrd lt L (m + 1)) (ha : a < m)
    (hc : ∀ i j, i < m + 1 → j < m + 1 → i ≠ a → j ≠ a → (lt' (L i) (L j) ↔ lt (L i) (L j))) : ButOne lt' (swapF L a m) m a := by
  refine ⟨fun i i0 im i1 i2 => ?_, fun a0 c c0 cm cp => ?_⟩
  · unfold Edge
    rw [swapF_other i1 (by omega), swapF_other i2 (by omega), hc i _ (by omega) (by omega) i1 i2]
    exact h i i0 (by omega)
  · rw [swapF_other (by omega) (by omega), swapF_other (by omega) (by omega), hc c _ (by omega) (by omega) (by omega) (by omega)]
    have k1 := h c c0 (by omega)
    unfold Edge at k1
    rw [cp] at k1
    exact o.le (hP _ (by omega)) (hP _ (by omega)) (hP _ (by omega)) (h a a0 (by omega)) k1
theorem HeapOrd.cut_last {lt lt' : Nat → Nat → Prop} {L : Nat → Nat} {m : Nat} (h : HeapOrd lt L (m + 1)) (hc : ∀ i j, i < m → j < m → (lt' (L i) (L j) ↔ lt (L i) (L j))) : HeapOrd lt' (swapF L m m) m := by
  intro i i0 im
  unfold Edge
  rw [swapF_other (by omega) (by omega), swapF_other (by omega) (by omega), hc i _ im (by omega)]
  exact h i i0 (by omega)
/-- One more at the end. -/
theorem HeapOrd.more {lt lt' : Nat → Nat → Prop} {L : Nat → Nat} {m x : Nat} (h : HeapOrd lt L m) (hc : ∀ i j, i < m → j < m → (lt' (L i) (L j) ↔ lt (L i) (L j))) :
    ButOne lt' (fun i => if i = m then x else L i) (m + 1) m := by
  refine ⟨fun i i0 im i1 i2 => ?_, fun a0 c c0 cm cp => by omega⟩
  unfold Edge
  simp only [if_neg i1, if_neg i2]
  rw [hc i _ (by omega) (by omega)]
  exact h i i0 (by omega)
end Go.Proofs.Ytademjmnoncieaa
