/-
  Rows of spans as lists of pairs: what a list has, normal lists, that a set has one normal list at most.
  Conditions: none.
-/
import Derived.Test.YtademjmnoncieaaProg
set_option linter.unusedVariables false
namespace Go.Proofs.Ytademjmnoncieaa

abbrev Sp := Int × Int
/-- A number is in one of the spans. -/
def hasS (l : List Sp) (x : Int) : Prop := ∃ s, s ∈ l ∧ s.1 ≤ x ∧ x < s.2
def NormalS (l : List Sp) : Prop := (∀ s ∈ l, s.1 < s.2) ∧ l.Pairwise (fun s t => s.2 < t.1)

theorem hasS_nil (x : Int) : ¬ hasS [] x := by rintro ⟨s, h, _⟩; cases h
theorem hasS_cons (s : Sp) (l : List Sp) (x : Int) : hasS (s :: l) x ↔ (s.1 ≤ x ∧ x < s.2) ∨ hasS l x := by
  constructor
  · rintro ⟨t, ht, h⟩
    rcases List.mem_cons.1 ht with rfl | ht
    · exact .inl h
    · exact .inr ⟨t, ht, h⟩
  · rintro (h | ⟨t, ht, h⟩)
    · exact ⟨s, List.mem_cons_self, h⟩
    · exact ⟨t, List.mem_cons_of_mem _ ht, h⟩
theorem hasS_append (l m : List Sp) (x : Int) : hasS (l ++ m) x ↔ hasS l x ∨ hasS m x := by
  induction l with
  | nil => simp [hasS_nil]
  | cons s l ih => rw [List.cons_append, hasS_cons, hasS_cons, ih, or_assoc]
theorem hasS_one (s : Sp) (x : Int) : hasS [s] x ↔ s.1 ≤ x ∧ x < s.2 := by
  rw [hasS_cons]; simp [hasS_nil]

/-- A span that has a number. -/
def fullS (s : Sp) : Bool := decide (s.1 < s.2)
theorem hasS_filter (l : List Sp) (x : Int) : hasS (l.filter fullS) x ↔ hasS l x := by
  constructor
  · rintro ⟨s, hs, h⟩; exact ⟨s, (List.mem_filter.1 hs).1, h⟩
  · rintro ⟨s, hs, h⟩; exact ⟨s, List.mem_filter.2 ⟨hs, by unfold fullS; simp; omega⟩, h⟩
theorem hasS_mem_iff {l m : List Sp} (h : ∀ s, s ∈ l ↔ s ∈ m) (x : Int) : hasS l x ↔ hasS m x := by
  constructor
  · rintro ⟨s, hs, hx⟩; exact ⟨s, (h s).1 hs, hx⟩
  · rintro ⟨s, hs, hx⟩; exact ⟨s, (h s).2 hs, hx⟩

theorem normal_nil : NormalS [] := ⟨by simp, List.Pairwise.nil⟩
theorem normal_cons {s : Sp} {l : List Sp} : NormalS (s :: l) ↔ s.1 < s.2 ∧ (∀ t ∈ l, s.2 < t.1) ∧ NormalS l := by
  unfold NormalS
  rw [List.pairwise_cons]
  simp only [List.mem_cons]
  constructor
  · rintro ⟨h1, h2, h3⟩
    exact ⟨h1 s (.inl rfl), h2, fun t ht => h1 t (.inr ht), h3⟩
  · rintro ⟨h1, h2, h3, h4⟩
    refine ⟨fun t ht => ?_, h2, h4⟩
    rcases ht with rfl | ht
    · exact h1
    · exact h3 t ht
theorem normal_snoc {s : Sp} {l : List Sp} : NormalS (l ++ [s]) ↔ NormalS l ∧ s.1 < s.2 ∧ ∀ t ∈ l, t.2 < s.1 := by
  unfold NormalS
  rw [List.pairwise_append]
  simp only [List.mem_append, List.mem_singleton]
  constructor
  · rintro ⟨h1, h2, h3, h4⟩
    exact ⟨⟨fun t ht => h1 t (.inl ht), h2⟩, h1 s (.inr rfl), fun t ht => h4 t ht s rfl⟩
  · rintro ⟨⟨h1, h2⟩, h3, h4⟩
    refine ⟨fun t ht => ?_, h2, List.pairwise_singleton _ _, fun t ht u hu => ?_⟩
    · rcases ht with ht | rfl
      · exact h1 t ht
      · exact h3
    · subst hu; exact h4 t ht
theorem normal_low {s : Sp} {l : List Sp} (h : NormalS (s :: l)) {x : Int} (hx : hasS (s :: l) x) : s.1 ≤ x := by
  obtain ⟨h1, h2, h3⟩ := normal_cons.1 h
  rcases (hasS_cons s l x).1 hx with hx | ⟨t, ht, hx⟩
  · exact hx.1
  · have := h2 t ht; omega
theorem normal_rest_gt {s : Sp} {l : List Sp} (h : NormalS (s :: l)) {x : Int} (hx : hasS l x) : s.2 < x := by
  obtain ⟨h1, h2, h3⟩ := normal_cons.1 h
  obtain ⟨t, ht, hx⟩ := hx
  have := h2 t ht; omega

/-- A set has one normal list. -/
theorem normal_unique : ∀ (a b : List Sp), NormalS a → NormalS b → (∀ x, hasS a x ↔ hasS b x) → a = b
  | [], [], _, _, _ => rfl
  | [], t :: q, _, hb, h => by
    have := (h t.1).2 ((hasS_cons _ _ _).2 (.inl ⟨Int.le_refl _, (normal_cons.1 hb).1⟩))
    exact absurd this (hasS_nil _)
  | s :: r, [], ha, _, h => by
    have := (h s.1).1 ((hasS_cons _ _ _).2 (.inl ⟨Int.le_refl _, (normal_cons.1 ha).1⟩))
    exact absurd this (hasS_nil _)
  | s :: r, t :: q, ha, hb, h => by
    obtain ⟨a1, a2, a3⟩ := normal_cons.1 ha
    obtain ⟨b1, b2, b3⟩ := normal_cons.1 hb
    have e1 : t.1 ≤ s.1 := normal_low hb ((h s.1).1 ((hasS_cons _ _ _).2 (.inl ⟨Int.le_refl _, a1⟩)))
    have e2 : s.1 ≤ t.1 := normal_low ha ((h t.1).2 ((hasS_cons _ _ _).2 (.inl ⟨Int.le_refl _, b1⟩)))
    have e3 : t.2 ≤ s.2 := by
      rcases Int.lt_or_le s.2 t.2 with hlt | hle
      · have := (h s.2).2 ((hasS_cons _ _ _).2 (.inl ⟨by omega, hlt⟩))
        rcases (hasS_cons _ _ _).1 this with h' | h'
        · omega
        · have := normal_rest_gt ha h'; omega
      · exact hle
    have e4 : s.2 ≤ t.2 := by
      rcases Int.lt_or_le t.2 s.2 with hlt | hle
      · have := (h t.2).1 ((hasS_cons _ _ _).2 (.inl ⟨by omega, hlt⟩))
        rcases (hasS_cons _ _ _).1 this with h' | h'
        · omega
        · have := normal_rest_gt hb h'; omega
      · exact hle
    have est : s = t := Prod.ext (by omega) (by omega)
    subst est
    rw [normal_unique r q a3 b3 fun x => ?_]
    have hx := h x
    rw [hasS_cons, hasS_cons] at hx
    constructor
    · intro hr
      have g := normal_rest_gt ha hr
      rcases hx.1 (.inr hr) with h' | h'
      · omega
      · exact h'
    · intro hr
      have g := normal_rest_gt hb hr
      rcases hx.2 (.inr hr) with h' | h'
      · omega
      · exact h'

/-- The list is the normal one of a set. -/
def IsN (r : List Sp) (S : Int → Prop) : Prop := NormalS r ∧ ∀ x, hasS r x ↔ S x
theorem IsN.unique {a b : List Sp} {S T : Int → Prop} (ha : IsN a S) (hb : IsN b T) (h : ∀ x, S x ↔ T x) : a = b :=
  normal_unique a b ha.1 hb.1 fun x => (ha.2 x).trans ((h x).trans (hb.2 x).symm)
theorem IsN.congr {a : List Sp} {S T : Int → Prop} (ha : IsN a S) (h : ∀ x, S x ↔ T x) : IsN a T := ⟨ha.1, fun x => (ha.2 x).trans (h x)⟩

/-! What the program joins: spans by rising From. -/
def joinStep (row : List Sp) (s : Sp) : List Sp :=
  match row.getLast? with
  | none => [s]
  | some l => if s.1 ≤ l.2 then row.dropLast ++ [(l.1, max l.2 s.2)] else row ++ [s]
def joinT (row : List Sp) (l : List Sp) : List Sp := l.foldl joinStep row
theorem joinT_snoc (row l : List Sp) (s : Sp) : joinT row (l ++ [s]) = joinStep (joinT row l) s := by simp [joinT]
theorem joinStep_nil (s : Sp) : joinStep [] s = [s] := rfl
theorem joinStep_snoc (row : List Sp) (l s : Sp) : joinStep (row ++ [l]) s = if s.1 ≤ l.2 then row ++ [(l.1, max l.2 s.2)] else row ++ [l] ++ [s] := by
  simp [joinStep]
theorem joinStep_length (row : List Sp) (s : Sp) : (joinStep row s).length ≤ row.length + 1 := by
  rcases List.eq_nil_or_concat row with rfl | ⟨r, l, rfl⟩
  · simp [joinStep_nil]
  · rw [List.concat_eq_append, joinStep_snoc]
    by_cases h : s.1 ≤ l.2
    · rw [if_pos h]; simp
    · rw [if_neg h]; simp

theorem joinT_spec : ∀ (l : List Sp) (row : List Sp), NormalS row → (∀ s ∈ l, s.1 < s.2) → l.Pairwise (fun s t => s.1 ≤ t.1) → (∀ s ∈ row, ∀ t ∈ l, s.1 ≤ t.1) →
    NormalS (joinT row l) ∧ ∀ x, hasS (joinT row l) x ↔ hasS row x ∨ hasS l x
  | [], row, h, _, _, _ => ⟨h, fun x => by simp [joinT, hasS_nil]⟩
  | s :: r, row, h, hf, hs, hlow => by
    have e : joinT row (s :: r) = joinT (joinStep row s) r := rfl
    rw [e]
    have hf' : ∀ t ∈ r, t.1 < t.2 := fun t ht => hf t (List.mem_cons_of_mem _ ht)
    obtain ⟨hs1, hs2⟩ := List.pairwise_cons.1 hs
    have hsf := hf s List.mem_cons_self
    have key : NormalS (joinStep row s) ∧ (∀ x, hasS (joinStep row s) x ↔ hasS row x ∨ (s.1 ≤ x ∧ x < s.2)) ∧ ∀ q ∈ joinStep row s, ∀ t ∈ r, q.1 ≤ t.1 := by
      rcases List.eq_nil_or_concat row with rfl | ⟨q, l, rfl⟩
      · refine ⟨normal_cons.2 ⟨hsf, by simp, normal_nil⟩, fun x => ?_, fun q hq t ht => ?_⟩
        · rw [joinStep_nil, hasS_one]; simp [hasS_nil]
        · rw [joinStep_nil, List.mem_singleton] at hq; subst hq; exact hs1 t ht
      · rw [List.concat_eq_append] at h hlow ⊢
        obtain ⟨n1, n2, n3⟩ := normal_snoc.1 h
        have hl : l.1 ≤ s.1 := hlow l (by simp) s List.mem_cons_self
        rw [joinStep_snoc]
        by_cases hc : s.1 ≤ l.2
        · rw [if_pos hc]
          refine ⟨normal_snoc.2 ⟨n1, by show l.1 < max l.2 s.2; omega, n3⟩, fun x => ?_, fun u hu t ht => ?_⟩
          · rw [hasS_append, hasS_append, hasS_one, hasS_one]
            show hasS q x ∨ (l.1 ≤ x ∧ x < max l.2 s.2) ↔ _
            constructor
            · rintro (h' | h')
              · exact .inl (.inl h')
              · by_cases hx : x < l.2
                · exact .inl (.inr ⟨h'.1, hx⟩)
                · exact .inr ⟨by omega, by omega⟩
            · rintro ((h' | h') | h')
              · exact .inl h'
              · exact .inr ⟨h'.1, by omega⟩
              · exact .inr ⟨by omega, by omega⟩
          · rcases List.mem_append.1 hu with hu | hu
            · exact hlow u (by simp [hu]) t (List.mem_cons_of_mem _ ht)
            · rw [List.mem_singleton] at hu; subst hu
              exact hlow l (by simp) t (List.mem_cons_of_mem _ ht)
        · rw [if_neg hc]
          refine ⟨normal_snoc.2 ⟨h, hsf, fun t ht => ?_⟩, fun x => ?_, fun u hu t ht => ?_⟩
          · rcases List.mem_append.1 ht with ht | ht
            · have := n3 t ht; omega
            · rw [List.mem_singleton] at ht; subst ht; omega
          · rw [hasS_append, hasS_one]
          · rcases List.mem_append.1 hu with hu | hu
            · exact hlow u hu t (List.mem_cons_of_mem _ ht)
            · rw [List.mem_singleton] at hu; subst hu; exact hs1 t ht
    obtain ⟨k1, k2, k3⟩ := key
    obtain ⟨g1, g2⟩ := joinT_spec r (joinStep row s) k1 hf' hs2 k3
    refine ⟨g1, fun x => ?_⟩
    rw [g2, k2, hasS_cons, or_assoc]

/-! What two normal lists both have. -/
def meetT : List Sp → List Sp → List Sp
  | [], _ => []
  | _ :: _, [] => []
  | a :: ra, b :: rb => (max a.1 b.1, min a.2 b.2) :: if a.2 < b.2 then meetT ra (b :: rb) else meetT (a :: ra) rb
termination_by a b => a.length + b.length

theorem meetT_nil (b : List Sp) : meetT [] b = [] := by unfold meetT; rfl
theorem meetT_nil' (a : List Sp) : meetT a [] = [] := by cases a <;> (unfold meetT; rfl)
theorem meetT_cons (a b : Sp) (ra rb : List Sp) : meetT (a :: ra) (b :: rb) = (max a.1 b.1, min a.2 b.2) :: if a.2 < b.2 then meetT ra (b :: rb) else meetT (a :: ra) rb := by rw [meetT]
theorem meetT_length : ∀ (n : Nat) (a b : List Sp), a.length + b.length ≤ n → (meetT a b).length ≤ n
  | n, [], b, _ => by rw [meetT_nil]; simp
  | n, a :: ra, [], _ => by rw [meetT_nil']; simp
  | 0, a :: ra, b :: rb, h => by simp at h
  | n + 1, a :: ra, b :: rb, h => by
    rw [meetT_cons]
    simp only [List.length_cons] at h ⊢
    by_cases hc : a.2 < b.2
    · rw [if_pos hc]
      have := meetT_length n ra (b :: rb) (by simp; omega); omega
    · rw [if_neg hc]
      have := meetT_length n (a :: ra) rb (by simp; omega); omega

theorem meetT_spec : ∀ (n : Nat) (a b : List Sp), a.length + b.length ≤ n → NormalS a → NormalS b →
    NormalS ((meetT a b).filter fullS) ∧ (∀ x, hasS (meetT a b) x ↔ hasS a x ∧ hasS b x) ∧ ∀ c : Int, (∀ t ∈ a, ∀ u ∈ b, c < max t.1 u.1) → ∀ s ∈ meetT a b, c < s.1
  | n, [], b, _, _, _ => by rw [meetT_nil]; exact ⟨normal_nil, fun x => by simp [hasS_nil], by simp⟩
  | n, a :: ra, [], _, _, _ => by rw [meetT_nil']; exact ⟨normal_nil, fun x => by simp [hasS_nil], by simp⟩
  | 0, a :: ra, b :: rb, h, _, _ => by simp at h
  | n + 1, a :: ra, b :: rb, h, ha, hb => by
    obtain ⟨a1, a2, a3⟩ := normal_cons.1 ha
    obtain ⟨b1, b2, b3⟩ := normal_cons.1 hb
    simp only [List.length_cons] at h
    rw [meetT_cons]
    have fin : ∀ m, NormalS (m.filter fullS) → (∀ s ∈ m, min a.2 b.2 < s.1) → NormalS (((max a.1 b.1, min a.2 b.2) :: m).filter fullS) := by
      intro m hm hlt
      rw [List.filter_cons]
      by_cases hf : fullS (max a.1 b.1, min a.2 b.2) = true
      · rw [if_pos hf]
        refine normal_cons.2 ⟨by unfold fullS at hf; simpa using hf, fun t ht => hlt t (List.mem_filter.1 ht).1, hm⟩
      · rw [if_neg hf]; exact hm
    by_cases hc : a.2 < b.2
    · rw [if_pos hc]
      obtain ⟨i1, i2, i3⟩ := meetT_spec n ra (b :: rb) (by simp; omega) a3 hb
      refine ⟨fin _ i1 (i3 _ fun t ht u hu => by have := a2 t ht; omega), fun x => ?_, fun c hcc s hs => ?_⟩
      · rw [hasS_cons, i2, hasS_cons, hasS_cons]
        show (max a.1 b.1 ≤ x ∧ x < min a.2 b.2) ∨ _ ↔ _
        constructor
        · rintro (h' | h')
          · exact ⟨.inl ⟨by omega, by omega⟩, .inl ⟨by omega, by omega⟩⟩
          · exact ⟨.inr h'.1, h'.2⟩
        · rintro ⟨h' | h', g⟩
          · rcases g with g | g
            · exact .inl ⟨by omega, by omega⟩
            · have := normal_rest_gt hb g; omega
          · exact .inr ⟨h', g⟩
      · rcases List.mem_cons.1 hs with rfl | hs
        · exact hcc a List.mem_cons_self b List.mem_cons_self
        · exact i3 c (fun t ht u hu => hcc t (List.mem_cons_of_mem _ ht) u hu) s hs
    · rw [if_neg hc]
      obtain ⟨i1, i2, i3⟩ := meetT_spec n (a :: ra) rb (by simp; omega) ha b3
      refine ⟨fin _ i1 (i3 _ fun t ht u hu => by have := b2 u hu; omega), fun x => ?_, fun c hcc s hs => ?_⟩
      · rw [hasS_cons, i2, hasS_cons, hasS_cons]
        show (max a.1 b.1 ≤ x ∧ x < min a.2 b.2) ∨ _ ↔ _
        constructor
        · rintro (h' | h')
          · exact ⟨.inl ⟨by omega, by omega⟩, .inl ⟨by omega, by omega⟩⟩
          · exact ⟨h'.1, .inr h'.2⟩
        · rintro ⟨g, h' | h'⟩
          · rcases g with g | g
            · exact .inl ⟨by omega, by omega⟩
            · have := normal_rest_gt ha g; omega
          · exact .inr ⟨g, h'⟩
      · rcases List.mem_cons.1 hs with rfl | hs
        · exact hcc a List.mem_cons_self b List.mem_cons_self
        · exact i3 c (fun t ht u hu => hcc t ht u (List.mem_cons_of_mem _ hu)) s hs

theorem meet_isN {a b : List Sp} (ha : NormalS a) (hb : NormalS b) : IsN ((meetT a b).filter fullS) (fun x => hasS a x ∧ hasS b x) := by
  obtain ⟨h1, h2, _⟩ := meetT_spec _ a b (Nat.le_refl _) ha hb
  exact ⟨h1, fun x => (hasS_filter _ x).trans (h2 x)⟩

/-! What is not there. -/
def gapsT (to : Int) : Int → List Sp → List Sp
  | f, [] => [(f, to)]
  | f, s :: r => (f, min s.1 to) :: gapsT to (max f s.2) r
theorem gapsT_length (to : Int) : ∀ (l : List Sp) (f : Int), (gapsT to f l).length = l.length + 1
  | [], f => rfl
  | s :: r, f => by simp [gapsT, gapsT_length to r]
theorem gapsT_spec (to : Int) : ∀ (l : List Sp) (f : Int), NormalS l →
    NormalS ((gapsT to f l).filter fullS) ∧ (∀ x, hasS (gapsT to f l) x ↔ (f ≤ x ∧ x < to) ∧ ¬ hasS l x) ∧ ∀ s ∈ gapsT to f l, f ≤ s.1
  | [], f, _ => by
    refine ⟨?_, fun x => ?_, fun s hs => ?_⟩
    · show NormalS (([(f, to)] : List Sp).filter fullS)
      rw [List.filter_cons]
      by_cases hf : fullS (f, to) = true
      · rw [if_pos hf]; exact normal_cons.2 ⟨by unfold fullS at hf; simpa using hf, by simp, by simpa using normal_nil⟩
      · rw [if_neg hf]; exact normal_nil
    · show hasS [(f, to)] x ↔ _
      rw [hasS_one]; simp [hasS_nil]
    · have : s = (f, to) := by simpa [gapsT] using hs
      subst this; exact Int.le_refl _
  | s :: r, f, h => by
    obtain ⟨a1, a2, a3⟩ := normal_cons.1 h
    obtain ⟨i1, i2, i3⟩ := gapsT_spec to r (max f s.2) a3
    have e : gapsT to f (s :: r) = (f, min s.1 to) :: gapsT to (max f s.2) r := rfl
    rw [e]
    refine ⟨?_, fun x => ?_, fun t ht => ?_⟩
    · rw [List.filter_cons]
      by_cases hf : fullS (f, min s.1 to) = true
      · rw [if_pos hf]
        refine normal_cons.2 ⟨by unfold fullS at hf; simpa using hf, fun t ht => ?_, i1⟩
        have := i3 t (List.mem_filter.1 ht).1
        show min s.1 to < t.1
        omega
      · rw [if_neg hf]; exact i1
    · rw [hasS_cons, i2, hasS_cons]
      show (f ≤ x ∧ x < min s.1 to) ∨ _ ↔ _
      constructor
      · rintro (h' | ⟨h1, h2⟩)
        · refine ⟨⟨h'.1, by omega⟩, ?_⟩
          rintro (g | g)
          · omega
          · have := normal_rest_gt h g; omega
        · refine ⟨⟨by omega, by omega⟩, ?_⟩
          rintro (g | g)
          · omega
          · exact h2 g
      · rintro ⟨h1, h2⟩
        by_cases hx : x < s.1
        · exact .inl ⟨by omega, by omega⟩
        · refine .inr ⟨⟨?_, by omega⟩, fun g => h2 (.inr g)⟩
          by_cases hy : x < s.2
          · exact absurd (.inl ⟨by omega, hy⟩) h2
          · omega
    · rcases List.mem_cons.1 ht with rfl | ht
      · exact Int.le_refl _
      · have := i3 t ht; omega
theorem gaps_isN {l : List Sp} (h : NormalS l) (f to : Int) : IsN ((gapsT to f l).filter fullS) (fun x => (f ≤ x ∧ x < to) ∧ ¬ hasS l x) := by
  obtain ⟨h1, h2, _⟩ := gapsT_spec to l f h
  exact ⟨h1, fun x => (hasS_filter _ x).trans (h2 x)⟩
end Go.Proofs.Ytademjmnoncieaa
