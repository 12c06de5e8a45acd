/-
  The mathematics of the stable sort: an order of indices by falling keys, then by themselves; exchanges, turns, and what they keep.
  Conditions: none.
-/
import Derived.Test.YtnigoojjbljibaaRow
set_option linter.unusedVariables false
namespace Go.Proofs.Ytnigoojjbljibaa

section
variable (key : Nat → Int)
/-- x goes before y: its key is greater, or the keys are equal and x is less. -/
def bef (x y : Nat) : Prop := key y < key x ∨ (key x = key y ∧ x < y)
def SortedIn (a b : Nat) (d : Nat → Nat) : Prop := ∀ i j, a ≤ i → i < j → j < b → bef key (d i) (d j)
variable {key}
theorem bef.trans {x y z : Nat} (h : bef key x y) (k : bef key y z) : bef key x z := by unfold bef at *; omega
theorem bef.irrefl {x : Nat} (h : bef key x x) : False := by unfold bef at h; omega
theorem bef.keys {x y : Nat} (h : bef key x y) : key y ≤ key x := by unfold bef at h; omega
theorem bef_lt {x y : Nat} (h : key y < key x) : bef key x y := .inl h
theorem bef_tag {x y : Nat} (h : ¬ key x < key y) (ht : x < y) : bef key x y := by unfold bef; omega
end

def swp (d : Nat → Nat) (i j : Nat) : Nat → Nat := fun k => if k = i then d j else if k = j then d i else d k
/-- The first k of [a, ..) and of [b, ..), exchanged. -/
def swR (a b k : Nat) (d : Nat → Nat) : Nat → Nat := fun x => if a ≤ x ∧ x < a + k then d (x - a + b) else if b ≤ x ∧ x < b + k then d (x - b + a) else d x
/-- [a, m) and [m, b) change places. -/
def rot (a m b : Nat) (d : Nat → Nat) : Nat → Nat := fun x => if a ≤ x ∧ x < a + (b - m) then d (x + (m - a)) else if a + (b - m) ≤ x ∧ x < b then d (x - (b - m)) else d x

theorem fun_eq {f : Nat → Nat} {x y : Nat} (h : x = y) : f x = f y := by rw [h]

theorem swR_zero (a b : Nat) (d : Nat → Nat) : swR a b 0 d = d := by
  funext x; unfold swR; rw [if_neg (by omega), if_neg (by omega)]
theorem swR_step (a b k : Nat) (d : Nat → Nat) (h : a + k < b) : swp (swR a b k d) (a + k) (b + k) = swR a b (k + 1) d := by
  funext x
  unfold swp swR
  by_cases h1 : x = a + k
  · subst h1
    rw [if_pos rfl, if_neg (by omega), if_neg (by omega), if_pos (by omega)]
    exact fun_eq (by omega)
  · by_cases h2 : x = b + k
    · subst h2
      rw [if_neg (by omega), if_pos rfl, if_neg (by omega), if_neg (by omega), if_neg (by omega), if_pos (by omega)]
      exact fun_eq (by omega)
    · rw [if_neg h1, if_neg h2]
      by_cases h3 : a ≤ x ∧ x < a + k
      · rw [if_pos h3, if_pos (by omega)]
      · rw [if_neg h3, if_neg (show ¬ (a ≤ x ∧ x < a + (k + 1)) by omega)]
        by_cases h4 : b ≤ x ∧ x < b + k
        · rw [if_pos h4, if_pos (by omega)]
        · rw [if_neg h4, if_neg (by omega)]

theorem rot_none_left (m b : Nat) (d : Nat → Nat) : rot m m b d = d := by
  funext x; unfold rot
  by_cases h1 : m ≤ x ∧ x < m + (b - m)
  · rw [if_pos h1]; exact fun_eq (by omega)
  · rw [if_neg h1, if_neg (by omega)]
theorem rot_none_right (a m : Nat) (d : Nat → Nat) (h : a ≤ m) : rot a m m d = d := by
  funext x; unfold rot
  rw [if_neg (by omega)]
  by_cases h1 : a + (m - m) ≤ x ∧ x < m
  · rw [if_pos h1]; exact fun_eq (by omega)
  · rw [if_neg h1]

/-- The left part is longer. -/
theorem rot_more (m i j : Nat) (d : Nat → Nat) (hi : i ≤ m) (hj : 0 < j) (h : j < i) : rot (m - (i - j)) m (m + j) (swR (m - i) m j d) = rot (m - i) m (m + j) d := by
  funext x
  unfold rot swR
  by_cases h1 : m - i ≤ x ∧ x < m - i + j
  · rw [if_neg (by omega), if_neg (by omega), if_pos h1, if_pos (by omega)]; exact fun_eq (by omega)
  · by_cases h2 : m - i + j ≤ x ∧ x < m + j
    · rw [if_neg (show ¬ (m - i ≤ x ∧ x < m - i + (m + j - m)) by omega), if_pos (show m - i + (m + j - m) ≤ x ∧ x < m + j by omega)]
      by_cases h3 : x < m - (i - j) + j
      · rw [if_pos (by omega), if_neg (by omega), if_pos (by omega)]; exact fun_eq (by omega)
      · rw [if_neg (by omega), if_pos (by omega), if_neg (by omega), if_neg (by omega)]
    · rw [if_neg (by omega), if_neg (by omega), if_neg h1, if_neg (by omega), if_neg (by omega), if_neg (by omega)]
/-- The right part is longer. -/
theorem rot_less (m i j : Nat) (d : Nat → Nat) (hi : i ≤ m) (h0 : 0 < i) (h : i < j) : rot (m - i) m (m + (j - i)) (swR (m - i) (m + j - i) i d) = rot (m - i) m (m + j) d := by
  funext x
  unfold rot swR
  by_cases h1 : m + j - i ≤ x ∧ x < m + j
  · rw [if_neg (by omega), if_neg (by omega), if_neg (by omega), if_pos (by omega), if_neg (by omega), if_pos (by omega)]; exact fun_eq (by omega)
  · by_cases h2 : m - i ≤ x ∧ x < m + j - i
    · rw [if_pos (show m - i ≤ x ∧ x < m - i + (m + j - m) by omega)]
      by_cases h3 : x < m - i + (j - i)
      · rw [if_pos (by omega), if_neg (by omega)]
        by_cases h4 : m + j - i ≤ x + (m - (m - i))
        · omega
        · rw [if_neg (by omega)]
      · rw [if_neg (by omega), if_pos (by omega), if_pos (by omega)]; exact fun_eq (by omega)
    · rw [if_neg (by omega), if_neg (by omega), if_neg (by omega), if_neg (by omega), if_neg (by omega), if_neg (by omega)]
/-- Both parts are as long. -/
theorem rot_same (m i : Nat) (d : Nat → Nat) (hi : i ≤ m) : swR (m - i) m i d = rot (m - i) m (m + i) d := by
  funext x
  unfold rot swR
  by_cases h1 : m - i ≤ x ∧ x < m - i + i
  · rw [if_pos h1, if_pos (by omega)]; exact fun_eq (by omega)
  · by_cases h2 : m ≤ x ∧ x < m + i
    · rw [if_neg h1, if_pos h2, if_neg (by omega), if_pos (by omega)]; exact fun_eq (by omega)
    · rw [if_neg h1, if_neg h2, if_neg (by omega), if_neg (by omega)]
/-- One exchange more turns one more. -/
theorem rot_right (a k : Nat) (d : Nat → Nat) (h : a ≤ k) : swp (rot a (a + 1) (k + 1) d) k (k + 1) = rot a (a + 1) (k + 2) d := by
  funext x
  unfold swp rot
  by_cases h1 : x = k
  · subst h1
    rw [if_pos rfl, if_neg (by omega), if_neg (by omega), if_pos (by omega)]; exact fun_eq (by omega)
  · by_cases h2 : x = k + 1
    · subst h2
      rw [if_neg h1, if_pos rfl, if_neg (by omega), if_pos (by omega), if_neg (by omega), if_pos (by omega)]; exact fun_eq (by omega)
    · rw [if_neg h1, if_neg h2]
      by_cases h3 : a ≤ x ∧ x < k
      · rw [if_pos (by omega), if_pos (by omega)]
      · rw [if_neg (by omega), if_neg (by omega), if_neg (by omega), if_neg (by omega)]
theorem rot_left (k m : Nat) (d : Nat → Nat) (h : k + 1 ≤ m) : swp (rot (k + 1) m (m + 1) d) (k + 1) k = rot k m (m + 1) d := by
  funext x
  unfold swp rot
  by_cases h1 : x = k + 1
  · subst h1
    rw [if_pos rfl, if_neg (by omega), if_neg (by omega), if_neg (by omega), if_pos (by omega)]; exact fun_eq (by omega)
  · by_cases h2 : x = k
    · subst h2
      rw [if_neg h1, if_pos rfl, if_pos (by omega), if_pos (by omega)]; exact fun_eq (by omega)
    · rw [if_neg h1, if_neg h2]
      by_cases h3 : k + 1 < x ∧ x < m + 1
      · rw [if_neg (by omega), if_pos (by omega), if_neg (by omega), if_pos (by omega)]
      · rw [if_neg (by omega), if_neg (by omega), if_neg (by omega), if_neg (by omega)]

/-- [a, b) has what it had, in some order; all else stays. -/
def PermOn (a b : Nat) (d d' : Nat → Nat) : Prop :=
  ∃ s t : Nat → Nat, (∀ i, a ≤ i → i < b → a ≤ s i ∧ s i < b ∧ a ≤ t i ∧ t i < b) ∧ (∀ i, i < a ∨ b ≤ i → s i = i ∧ t i = i) ∧ (∀ i, s (t i) = i) ∧ (∀ i, t (s i) = i) ∧ ∀ i, d' i = d (s i)

theorem PermOn.refl (a b : Nat) (d : Nat → Nat) : PermOn a b d d := ⟨id, id, fun i h1 h2 => ⟨h1, h2, h1, h2⟩, fun i _ => ⟨rfl, rfl⟩, fun _ => rfl, fun _ => rfl, fun _ => rfl⟩
theorem PermOn.trans {a b : Nat} {d e f : Nat → Nat} (h : PermOn a b d e) (k : PermOn a b e f) : PermOn a b d f := by
  obtain ⟨s, t, h1, h2, h3, h4, h5⟩ := h
  obtain ⟨u, v, k1, k2, k3, k4, k5⟩ := k
  refine ⟨fun i => s (u i), fun i => v (t i), fun i hi hj => ?_, fun i hi => ?_, fun i => ?_, fun i => ?_, fun i => ?_⟩
  · have a1 := k1 i hi hj
    have a2 := h1 (u i) a1.1 a1.2.1
    have a3 := h1 i hi hj
    have a4 := k1 (t i) a3.2.2.1 a3.2.2.2
    exact ⟨a2.1, a2.2.1, a4.2.2.1, a4.2.2.2⟩
  · have a1 := k2 i hi
    have a2 := h2 i hi
    exact ⟨by show s (u i) = i; rw [a1.1, a2.1], by show v (t i) = i; rw [a2.2, a1.2]⟩
  · show s (u (v (t i))) = i
    rw [k3, h3]
  · show v (t (s (u i))) = i
    rw [h4, k4]
  · show f i = d (s (u i))
    rw [k5, h5]
theorem PermOn.mono {a b a' b' : Nat} {d e : Nat → Nat} (h : PermOn a b d e) (ha : a' ≤ a) (hb : b ≤ b') : PermOn a' b' d e := by
  obtain ⟨s, t, h1, h2, h3, h4, h5⟩ := h
  refine ⟨s, t, fun i hi hj => ?_, fun i hi => h2 i (by omega), h3, h4, h5⟩
  by_cases c : a ≤ i ∧ i < b
  · have := h1 i c.1 c.2; omega
  · have := h2 i (by omega); omega
theorem PermOn.out {a b : Nat} {d e : Nat → Nat} (h : PermOn a b d e) {i : Nat} (hi : i < a ∨ b ≤ i) : e i = d i := by
  obtain ⟨s, t, h1, h2, h3, h4, h5⟩ := h
  rw [h5, (h2 i hi).1]
theorem PermOn.all {a b : Nat} {d e : Nat → Nat} (h : PermOn a b d e) {Q : Nat → Prop} (hq : ∀ i, a ≤ i → i < b → Q (d i)) : ∀ i, a ≤ i → i < b → Q (e i) := by
  obtain ⟨s, t, h1, h2, h3, h4, h5⟩ := h
  intro i hi hj
  rw [h5]
  have := h1 i hi hj
  exact hq _ this.1 this.2.1
theorem PermOn.swp {a b i j : Nat} (d : Nat → Nat) (hi : a ≤ i ∧ i < b) (hj : a ≤ j ∧ j < b) : PermOn a b d (swp d i j) := by
  let f : Nat → Nat := fun k => if k = i then j else if k = j then i else k
  have ff : ∀ k, f (f k) = k := by
    intro k
    show (if (if k = i then j else if k = j then i else k) = i then j else if (if k = i then j else if k = j then i else k) = j then i else (if k = i then j else if k = j then i else k)) = k
    by_cases h1 : k = i
    · subst h1; rw [if_pos rfl]; by_cases h2 : j = k
      · rw [if_pos h2, h2]
      · rw [if_neg h2, if_pos rfl]
    · rw [if_neg h1]
      by_cases h2 : k = j
      · subst h2; rw [if_pos rfl, if_pos rfl]
      · rw [if_neg h2, if_neg h1, if_neg h2]
  have fr : ∀ k, a ≤ k → k < b → a ≤ f k ∧ f k < b := by
    intro k h1 h2
    show a ≤ (if k = i then j else if k = j then i else k) ∧ (if k = i then j else if k = j then i else k) < b
    split
    · exact hj
    · split
      · exact hi
      · exact ⟨h1, h2⟩
  refine ⟨f, f, fun k h1 h2 => ⟨(fr k h1 h2).1, (fr k h1 h2).2, (fr k h1 h2).1, (fr k h1 h2).2⟩, fun k hk => ?_, ff, ff, fun k => ?_⟩
  · have : f k = k := by
      show (if k = i then j else if k = j then i else k) = k
      rw [if_neg (by omega), if_neg (by omega)]
    exact ⟨this, this⟩
  · show Go.Proofs.Ytnigoojjbljibaa.swp d i j k = d (if k = i then j else if k = j then i else k)
    unfold Go.Proofs.Ytnigoojjbljibaa.swp
    split
    · rfl
    · split <;> rfl
def rotI (a m b : Nat) (x : Nat) : Nat := if a ≤ x ∧ x < a + (b - m) then x + (m - a) else if a + (b - m) ≤ x ∧ x < b then x - (b - m) else x
theorem rotI_rotI (a m b x : Nat) (h1 : a ≤ m) (h2 : m ≤ b) : rotI a m b (rotI a (a + (b - m)) b x) = x := by
  by_cases c1 : a ≤ x ∧ x < m
  · have e : rotI a (a + (b - m)) b x = x + (b - m) := by unfold rotI; rw [if_pos (by omega)]; omega
    rw [e]
    unfold rotI
    rw [if_neg (by omega), if_pos (by omega)]; omega
  · by_cases c2 : m ≤ x ∧ x < b
    · have e : rotI a (a + (b - m)) b x = x - (m - a) := by unfold rotI; rw [if_neg (by omega), if_pos (by omega)]; omega
      rw [e]
      unfold rotI
      rw [if_pos (by omega)]; omega
    · have e : rotI a (a + (b - m)) b x = x := by unfold rotI; rw [if_neg (by omega), if_neg (by omega)]
      rw [e]
      unfold rotI
      rw [if_neg (by omega), if_neg (by omega)]
theorem rotI_in (a m b x : Nat) (h1 : a ≤ m) (h2 : m ≤ b) (hx : a ≤ x) (hy : x < b) : a ≤ rotI a m b x ∧ rotI a m b x < b := by
  unfold rotI
  split
  · omega
  · split <;> omega
theorem PermOn.rot {a m b : Nat} (d : Nat → Nat) (h1 : a ≤ m) (h2 : m ≤ b) : PermOn a b d (rot a m b d) := by
  refine ⟨rotI a m b, rotI a (a + (b - m)) b, fun i hi hj => ?_, fun i hi => ?_, fun i => rotI_rotI a m b i h1 h2, fun i => ?_, fun i => ?_⟩
  · have x1 := rotI_in a m b i h1 h2 hi hj
    have x2 := rotI_in a (a + (b - m)) b i (by omega) (by omega) hi hj
    exact ⟨x1.1, x1.2, x2.1, x2.2⟩
  · constructor
    · unfold rotI; rw [if_neg (by omega), if_neg (by omega)]
    · unfold rotI; rw [if_neg (by omega), if_neg (by omega)]
  · have := rotI_rotI a (a + (b - m)) b i (by omega) (by omega)
    rwa [show a + (b - (a + (b - m))) = m by omega] at this
  · unfold Go.Proofs.Ytnigoojjbljibaa.rot rotI
    split
    · rfl
    · split <;> rfl
end Go.Proofs.Ytnigoojjbljibaa
