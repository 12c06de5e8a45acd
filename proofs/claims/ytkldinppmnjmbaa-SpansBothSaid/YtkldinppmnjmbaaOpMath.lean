/-
  The document's row of what is in: between two ends that follow one another all numbers are alike.
  Conditions: none.
-/
import Derived.Test.YtkldinppmnjmbaaEnds
import Derived.Test.YtkldinppmnjmbaaRefHas
set_option linter.unusedVariables false
namespace Go.Proofs.Ytkldinppmnjmbaa

def inK (k : Nat) (x y : Bool) : Bool := match k with
  | 0 => x || y
  | 1 => x && y
  | _ => x && !y
def stepR (o : List Sp) (p q : Int) : List Sp :=
  match o.getLast? with
  | none => [(p, q)]
  | some l => if l.2 = p then o.dropLast ++ [(l.1, q)] else o ++ [(p, q)]
theorem stepR_nil (p q : Int) : stepR [] p q = [(p, q)] := rfl
theorem stepR_snoc (r : List Sp) (l : Sp) (p q : Int) : stepR (r ++ [l]) p q = if l.2 = p then r ++ [(l.1, q)] else r ++ [l] ++ [(p, q)] := by simp [stepR]
def opT (E : List Int) (f : Int → Bool) : Nat → List Sp
  | 0 => []
  | i + 1 => if f (E.getD i 0) then stepR (opT E f i) (E.getD i 0) (E.getD (i + 1) 0) else opT E f i
theorem opT_length (E : List Int) (f : Int → Bool) : ∀ i, (opT E f i).length ≤ i
  | 0 => Nat.le_refl _
  | i + 1 => by
    have ih := opT_length E f i
    unfold opT
    by_cases h : f (E.getD i 0) = true
    · rw [if_pos h]
      rcases List.eq_nil_or_concat (opT E f i) with e | ⟨r, l, e⟩
      · rw [e, stepR_nil]; simp
      · rw [List.concat_eq_append] at e
        rw [e] at ih ⊢
        rw [stepR_snoc]
        by_cases h2 : l.2 = E.getD i 0
        · rw [if_pos h2]; simp at ih ⊢; omega
        · rw [if_neg h2]; simp at ih ⊢; omega
    · rw [if_neg h]; omega

theorem rises_get {E : List Int} (h : E.Pairwise (· < ·)) {i j : Nat} (hij : i < j) (hj : j < E.length) : E.getD i 0 < E.getD j 0 := by
  rw [List.pairwise_iff_getElem] at h
  have := h i j (by omega) hj hij
  simpa [List.getD, List.getElem?_eq_getElem hj, List.getElem?_eq_getElem (show i < E.length by omega)] using this

/-- What stands after i pairs of ends. -/
theorem opT_spec {E : List Int} (f : Int → Bool) (h : E.Pairwise (· < ·)) : ∀ i, i < E.length →
    NormalS (opT E f i) ∧ (∀ s ∈ opT E f i, s.2 ≤ E.getD i 0) ∧ ∀ x, hasS (opT E f i) x ↔ ∃ j, j < i ∧ E.getD j 0 ≤ x ∧ x < E.getD (j + 1) 0 ∧ f (E.getD j 0) = true
  | 0, _ => ⟨normal_nil, by simp [opT], fun x => by simp [opT, hasS_nil]⟩
  | i + 1, hi => by
    obtain ⟨h1, h2, h3⟩ := opT_spec f h i (by omega)
    have hpq := rises_get h (show i < i + 1 by omega) hi
    generalize hp : E.getD i 0 = p at *
    generalize hq : E.getD (i + 1) 0 = q at *
    have hex : ∀ x, (∃ j, j < i + 1 ∧ E.getD j 0 ≤ x ∧ x < E.getD (j + 1) 0 ∧ f (E.getD j 0) = true) ↔
        (∃ j, j < i ∧ E.getD j 0 ≤ x ∧ x < E.getD (j + 1) 0 ∧ f (E.getD j 0) = true) ∨ (p ≤ x ∧ x < q ∧ f p = true) := fun x => by
      constructor
      · rintro ⟨j, hj, g⟩
        by_cases e : j = i
        · subst e
          rw [hp, hq] at g
          exact .inr g
        · exact .inl ⟨j, by omega, g⟩
      · rintro (⟨j, hj, g⟩ | g)
        · exact ⟨j, by omega, g⟩
        · exact ⟨i, by omega, by rw [hp, hq]; exact g⟩
    have e : opT E f (i + 1) = if f p then stepR (opT E f i) p q else opT E f i := by
      show (if f (E.getD i 0) then stepR (opT E f i) (E.getD i 0) (E.getD (i + 1) 0) else opT E f i) = _
      rw [hp, hq]
    rw [e]
    by_cases hf : f p = true
    · rw [if_pos hf]
      generalize opT E f i = o at *
      rcases List.eq_nil_or_concat o with rfl | ⟨r, l, rfl⟩
      · rw [stepR_nil]
        refine ⟨normal_cons.2 ⟨hpq, by simp, normal_nil⟩, by simp, fun x => ?_⟩
        rw [hex, ← h3, hasS_one]
        simp [hasS_nil, hf]
      · rw [List.concat_eq_append] at h1 h2 h3 ⊢
        obtain ⟨n1, n2, n3⟩ := normal_snoc.1 h1
        have hl := h2 l (by simp)
        rw [stepR_snoc]
        by_cases h4 : l.2 = p
        · rw [if_pos h4]
          refine ⟨normal_snoc.2 ⟨n1, by show l.1 < q; omega, n3⟩, fun s hs => ?_, fun x => ?_⟩
          · rcases List.mem_append.1 hs with hs | hs
            · have := h2 s (by simp [hs]); omega
            · rw [List.mem_singleton] at hs; subst hs; exact Int.le_refl _
          · rw [hex, ← h3, hasS_append, hasS_append, hasS_one, hasS_one]
            show hasS r x ∨ (l.1 ≤ x ∧ x < q) ↔ _
            constructor
            · rintro (g | g)
              · exact .inl (.inl g)
              · by_cases hx : x < l.2
                · exact .inl (.inr ⟨g.1, hx⟩)
                · exact .inr ⟨by omega, g.2, hf⟩
            · rintro ((g | g) | g)
              · exact .inl g
              · exact .inr ⟨g.1, by omega⟩
              · exact .inr ⟨by omega, g.2.1⟩
        · rw [if_neg h4]
          refine ⟨normal_snoc.2 ⟨h1, hpq, fun s hs => ?_⟩, fun s hs => ?_, fun x => ?_⟩
          · rcases List.mem_append.1 hs with hs' | hs'
            · have := n3 s hs'
              show s.2 < p
              omega
            · rw [List.mem_singleton] at hs'; subst hs'
              show s.2 < p
              omega
          · rcases List.mem_append.1 hs with hs | hs
            · have := h2 s hs; omega
            · rw [List.mem_singleton] at hs; subst hs; exact Int.le_refl _
          · rw [hex, ← h3, hasS_append, hasS_one]
            simp [hf]
    · rw [if_neg hf]
      refine ⟨h1, fun s hs => by have := h2 s hs; omega, fun x => ?_⟩
      rw [hex, ← h3]
      simp [hf]

/-- Between which ends a number lies. -/
theorem locate {E : List Int} (x : Int) : ∀ (d m : Nat), m + d < E.length → E.getD m 0 ≤ x → x < E.getD (m + d) 0 → ∃ j, j + 1 < E.length ∧ E.getD j 0 ≤ x ∧ x < E.getD (j + 1) 0
  | 0, m, _, h1, h2 => by rw [Nat.add_zero] at h2; omega
  | d + 1, m, hl, h1, h2 => by
    by_cases h : x < E.getD (m + 1) 0
    · exact ⟨m, by omega, h1, h⟩
    · exact locate x d (m + 1) (by omega) (by omega) (by rwa [show m + 1 + d = m + (d + 1) by omega])
theorem mem_getD {E : List Int} {x : Int} (h : x ∈ E) : ∃ m, m < E.length ∧ E.getD m 0 = x := by
  obtain ⟨m, hm, e⟩ := List.getElem_of_mem h
  exact ⟨m, hm, by simp [List.getD, List.getElem?_eq_getElem hm, e]⟩
theorem side {E : List Int} (h : E.Pairwise (· < ·)) {j m : Nat} {x : Int} (hj : j + 1 < E.length) (hm : m < E.length) (h1 : E.getD j 0 ≤ x) (h2 : x < E.getD (j + 1) 0) :
    (E.getD m 0 ≤ x ↔ E.getD m 0 ≤ E.getD j 0) := by
  rcases Nat.lt_or_ge j m with hlt | hge
  · have a : E.getD (j + 1) 0 ≤ E.getD m 0 := by
      rcases Nat.lt_or_ge (j + 1) m with h' | h'
      · exact Int.le_of_lt (rises_get h h' hm)
      · rw [show m = j + 1 by omega]; exact Int.le_refl _
    have b := rises_get h hlt hm
    omega
  · have a : E.getD m 0 ≤ E.getD j 0 := by
      rcases Nat.lt_or_ge m j with h' | h'
      · exact Int.le_of_lt (rises_get h h' (by omega))
      · rw [show m = j by omega]; exact Int.le_refl _
    omega
theorem alike {E : List Int} (h : E.Pairwise (· < ·)) {l : List Sp} (hl : ∀ s ∈ l, s.1 ∈ E ∧ s.2 ∈ E) {j : Nat} {x : Int} (hj : j + 1 < E.length) (h1 : E.getD j 0 ≤ x) (h2 : x < E.getD (j + 1) 0) :
    l.any (inS x) = l.any (inS (E.getD j 0)) := by
  rw [Bool.eq_iff_iff, any_has, any_has]
  unfold hasS
  constructor
  · rintro ⟨s, hs, g1, g2⟩
    obtain ⟨m1, hm1, e1⟩ := mem_getD (hl s hs).1
    obtain ⟨m2, hm2, e2⟩ := mem_getD (hl s hs).2
    have a := side h hj hm1 h1 h2
    have b := side h hj hm2 h1 h2
    rw [e1] at a; rw [e2] at b
    exact ⟨s, hs, by omega, by omega⟩
  · rintro ⟨s, hs, g1, g2⟩
    obtain ⟨m1, hm1, e1⟩ := mem_getD (hl s hs).1
    obtain ⟨m2, hm2, e2⟩ := mem_getD (hl s hs).2
    have a := side h hj hm1 h1 h2
    have b := side h hj hm2 h1 h2
    rw [e1] at a; rw [e2] at b
    exact ⟨s, hs, by omega, by omega⟩
theorem inK_some {k : Nat} {x y : Bool} (h : inK k x y = true) : x = true ∨ y = true := by
  unfold inK at h
  split at h <;> (cases x <;> cases y <;> simp_all)

def inAB (k : Nat) (a b : List Sp) (x : Int) : Bool := inK k (a.any (inS x)) (b.any (inS x))
/-- The document's Op. -/
def refOp (k : Nat) (a b : List Sp) : List Sp := opT (endsT a b) (inAB k a b) ((endsT a b).length - 1)
theorem refOp_length (k : Nat) (a b : List Sp) : (refOp k a b).length ≤ (a.length + b.length) * 2 := by
  have h1 := opT_length (endsT a b) (inAB k a b) ((endsT a b).length - 1)
  have h2 := endsT_length a b
  unfold refOp
  omega
theorem refOp_isN (k : Nat) (a b : List Sp) : IsN (refOp k a b) (fun x => inAB k a b x = true) := by
  have hr := endsT_rises a b
  have ha : ∀ s ∈ a, s.1 ∈ endsT a b ∧ s.2 ∈ endsT a b := fun s hs => ⟨(mem_endsT a b _).2 (.inl ⟨s, hs, .inl rfl⟩), (mem_endsT a b _).2 (.inl ⟨s, hs, .inr rfl⟩)⟩
  have hb : ∀ s ∈ b, s.1 ∈ endsT a b ∧ s.2 ∈ endsT a b := fun s hs => ⟨(mem_endsT a b _).2 (.inr ⟨s, hs, .inl rfl⟩), (mem_endsT a b _).2 (.inr ⟨s, hs, .inr rfl⟩)⟩
  unfold refOp
  generalize endsT a b = E at *
  have hin : ∀ x, inAB k a b x = true → ∃ j, j + 1 < E.length ∧ E.getD j 0 ≤ x ∧ x < E.getD (j + 1) 0 := fun x hx => by
    have key : ∀ l : List Sp, (∀ s ∈ l, s.1 ∈ E ∧ s.2 ∈ E) → l.any (inS x) = true → ∃ j, j + 1 < E.length ∧ E.getD j 0 ≤ x ∧ x < E.getD (j + 1) 0 := fun l hl hh => by
      obtain ⟨s, hs, g1, g2⟩ := (any_has l x).1 hh
      obtain ⟨m1, hm1, e1⟩ := mem_getD (hl s hs).1
      obtain ⟨m2, hm2, e2⟩ := mem_getD (hl s hs).2
      have hlt : m1 < m2 := by
        rcases Nat.lt_or_ge m1 m2 with h | h
        · exact h
        · rcases Nat.lt_or_ge m2 m1 with h' | h'
          · have := rises_get hr h' hm1; omega
          · rw [show m1 = m2 by omega] at e1; omega
      exact locate x (m2 - m1) m1 (by omega) (by omega) (by rw [show m1 + (m2 - m1) = m2 by omega]; omega)
    rcases inK_some hx with h | h
    · exact key a ha h
    · exact key b hb h
  rcases Nat.eq_zero_or_pos E.length with h0 | hpos
  · rw [h0]
    refine ⟨normal_nil, fun x => ⟨fun h => absurd h (hasS_nil x), fun h => ?_⟩⟩
    obtain ⟨j, hj, _⟩ := hin x h
    omega
  · obtain ⟨h1, _, h3⟩ := opT_spec (inAB k a b) hr (E.length - 1) (by omega)
    refine ⟨h1, fun x => ?_⟩
    rw [h3]
    have same : ∀ j, j + 1 < E.length → E.getD j 0 ≤ x → x < E.getD (j + 1) 0 → inAB k a b x = inAB k a b (E.getD j 0) := fun j hj g1 g2 => by
      unfold inAB
      rw [alike hr ha hj g1 g2, alike hr hb hj g1 g2]
    constructor
    · rintro ⟨j, hj, g1, g2, g3⟩
      rw [same j (by omega) g1 g2]
      exact g3
    · intro h
      obtain ⟨j, hj, g1, g2⟩ := hin x h
      exact ⟨j, by omega, g1, g2, by rw [← same j hj g1 g2]; exact h⟩
/-! What the law compares. -/
theorem op_union (a b : List Sp) : refOp 0 a b = normT (a ++ b) :=
  (refOp_isN 0 a b).unique (normT_isN (a ++ b)) fun x => by
    show (a.any (inS x) || b.any (inS x)) = true ↔ _
    rw [Bool.or_eq_true, any_has, any_has, hasS_append]
theorem op_meet (a b : List Sp) : refOp 1 a b = meetN a b :=
  (refOp_isN 1 a b).unique (meetN_isN a b) fun x => by
    show (a.any (inS x) && b.any (inS x)) = true ↔ _
    rw [Bool.and_eq_true, any_has, any_has]
theorem op_less {a : List Sp} (b : List Sp) (ha : IntsS a) : refOp 2 a b = lessN a b :=
  (refOp_isN 2 a b).unique (lessN_isN b ha) fun x => by
    show (a.any (inS x) && !b.any (inS x)) = true ↔ _
    rw [Bool.and_eq_true, any_has, Bool.not_eq_true', ← any_has b, Bool.not_eq_true]
theorem op_gaps (l : List Sp) (f to : Int) : refOp 2 [(f, to)] l = gapsN l f to :=
  (refOp_isN 2 [(f, to)] l).unique (gapsN_isN l f to) fun x => by
    show ([(f, to)].any (inS x) && !l.any (inS x)) = true ↔ _
    rw [Bool.and_eq_true, any_has, hasS_one, Bool.not_eq_true', ← any_has l, Bool.not_eq_true]
theorem op_norm (a : List Sp) : refOp 0 a [] = normT a := by rw [op_union, List.append_nil]
end Go.Proofs.Ytkldinppmnjmbaa
