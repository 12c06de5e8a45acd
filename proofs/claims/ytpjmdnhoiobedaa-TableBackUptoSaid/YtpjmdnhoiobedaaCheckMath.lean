/-
  Which plans the program finds right: the same as the document.
  Conditions: none.
-/
import Derived.Test.YtpjmdnhoiobedaaRooms
import Derived.Test.YtpjmdnhoiobedaaRight
set_option linter.unusedVariables false
namespace Go.Proofs.Ytpjmdnhoiobedaa

/-! ### The check of wants -/
theorem chkE_zero {f : Int} {b : List Sp} {y : Sp} : chkE f b y = 0 ↔ isU y.1 = true ∧ 1 ≤ y.2 ∧ y.2 ≤ f ∧ (b.any fun s => decide (s.1 = y.1)) = false := by
  unfold chkE
  cases hu : isU y.1 with
  | false => simp
  | true =>
    rw [if_neg (by simp)]
    by_cases h : y.2 < 1 ∨ f < y.2
    · rw [if_pos h]
      constructor
      · intro h'; exact absurd h' (by decide)
      · rintro ⟨_, h1, h2, _⟩; omega
    · rw [if_neg h]
      cases hb : (b.any fun s => decide (s.1 = y.1)) with
      | true => simp
      | false =>
        rw [if_neg (by simp)]
        exact ⟨fun _ => ⟨rfl, by omega, by omega, rfl⟩, fun _ => rfl⟩
theorem chkL_zero {f : Int} : ∀ (r b : List Sp), chkL f b r = 0 ↔ ∀ (i : Nat) (y : Sp), r[i]? = some y → chkE f (b ++ r.take i) y = 0
  | [], b => by simp [chkL]
  | y :: r, b => by
    unfold chkL
    constructor
    · intro h
      by_cases he : chkE f b y = 0
      · have h := (chkL_zero r (b ++ [y])).1 (by simpa [he] using h)
        intro i z hi
        cases i with
        | zero =>
          have : y = z := by simpa using hi
          subst this
          simpa using he
        | succ i =>
          have := h i z (by simpa using hi)
          simpa [List.append_assoc] using this
      · exact absurd h (by simp [he])
    · intro h
      have he : chkE f b y = 0 := by have := h 0 y rfl; simpa using this
      have h2 := (chkL_zero r (b ++ [y])).2 fun i z hi => by
        have := h (i + 1) z (by simpa using hi)
        simpa [List.append_assoc] using this
      simp [he, h2]

/-- What the program asks of units. -/
def Rises (l : List Pl) : Prop := ∀ (i : Nat) (x y : Pl), l[i]? = some x → l[i + 1]? = some y → x.u ≤ y.u
structure UnitsOk (f : Int) (l : List Pl) : Prop where
  chk : chkT f (wantsT l) = 0
  rises : Rises l
theorem Rises.far {l : List Pl} (h : Rises l) : ∀ (d i : Nat) (x y : Pl), l[i]? = some x → l[i + d]? = some y → x.u ≤ y.u
  | 0, i, x, y, hx, hy => by
    rw [Nat.add_zero, hx] at hy
    cases hy
    exact Int.le_refl _
  | d + 1, i, x, y, hx, hy => by
    have hlt : i + (d + 1) < l.length := (List.getElem?_eq_some_iff.1 hy).1
    have hz : l[i + d]? = some l[i + d] := List.getElem?_eq_getElem (by omega)
    have h1 := Rises.far h d i x _ hx hz
    have h2 := h (i + d) _ y hz (by rw [← hy]; congr 1)
    omega
theorem wants_get {l : List Pl} {i : Nat} {y : Sp} : (wantsT l)[i]? = some y ↔ ∃ x, l[i]? = some x ∧ y = (x.u, x.s) := by
  unfold wantsT
  rw [List.getElem?_map, Option.map_eq_some_iff]
  exact ⟨fun ⟨x, h1, h2⟩ => ⟨x, h1, h2.symm⟩, fun ⟨x, h1, h2⟩ => ⟨x, h1, h2.symm⟩⟩
theorem units_iff {f : Int} {l : List Pl} : UnitsOk f l ↔ (2 ≤ f ∧ f ≤ 64) ∧ (∀ x ∈ l, isU x.u = true ∧ 1 ≤ x.s ∧ x.s ≤ f) ∧ ∀ (i : Nat) (x y : Pl), l[i]? = some x → l[i + 1]? = some y → x.u < y.u := by
  constructor
  · rintro ⟨hc, hr⟩
    unfold chkT at hc
    by_cases hf : f < 2 ∨ 64 < f
    · rw [if_pos hf] at hc; exact absurd hc (by decide)
    · rw [if_neg hf] at hc
      have h := (chkL_zero (wantsT l) []).1 hc
      have key : ∀ (i : Nat) (x : Pl), l[i]? = some x → isU x.u = true ∧ 1 ≤ x.s ∧ x.s ≤ f ∧ (((wantsT l).take i).any fun s => decide (s.1 = x.u)) = false := fun i x hx => by
        have := chkE_zero.1 (h i (x.u, x.s) (wants_get.2 ⟨x, hx, rfl⟩))
        simpa using this
      refine ⟨by omega, fun x hx => ?_, fun i x y hx hy => ?_⟩
      · obtain ⟨i, hi, e⟩ := List.getElem_of_mem hx
        obtain ⟨h1, h2, h3, _⟩ := key i x (by rw [List.getElem?_eq_getElem hi, e])
        exact ⟨h1, h2, h3⟩
      · have h1 := hr i x y hx hy
        obtain ⟨_, _, _, h2⟩ := key (i + 1) y hy
        have h3 : x.u ≠ y.u := fun e => by
          have hm : (((wantsT l).take (i + 1)).any fun s => decide (s.1 = y.u)) = true := by
            rw [List.any_eq_true]
            refine ⟨(x.u, x.s), ?_, by simpa using e⟩
            rw [List.mem_iff_getElem?]
            exact ⟨i, by rw [List.getElem?_take, if_pos (by omega)]; exact wants_get.2 ⟨x, hx, rfl⟩⟩
          rw [h2] at hm
          cases hm
        omega
  · rintro ⟨hf, hp, ha⟩
    have hr : Rises l := fun i x y hx hy => by have := ha i x y hx hy; omega
    have hs : ∀ (d i : Nat) (x y : Pl), l[i]? = some x → l[i + d + 1]? = some y → x.u < y.u := fun d i x y hx hy => by
      have hlt : i + d + 1 < l.length := (List.getElem?_eq_some_iff.1 hy).1
      have hz : l[i + d]? = some l[i + d] := List.getElem?_eq_getElem (by omega)
      have h1 := hr.far d i x _ hx hz
      have h2 := ha (i + d) _ y hz hy
      omega
    refine ⟨?_, hr⟩
    unfold chkT
    rw [if_neg (by omega), chkL_zero]
    intro i y hy
    obtain ⟨x, hx, rfl⟩ := wants_get.1 hy
    obtain ⟨h1, h2, h3⟩ := hp x (List.mem_of_getElem? hx)
    rw [chkE_zero]
    refine ⟨h1, h2, h3, ?_⟩
    rw [List.any_eq_false]
    intro s hs'
    rw [List.nil_append] at hs'
    obtain ⟨j, hj⟩ := List.mem_iff_getElem?.1 hs'
    rw [List.getElem?_take] at hj
    split at hj
    · obtain ⟨z, hz, rfl⟩ := wants_get.1 hj
      rename_i hji
      obtain ⟨d, hd⟩ : ∃ d, i = j + d + 1 := ⟨i - j - 1, by omega⟩
      subst hd
      have := hs d j z x hz hx
      simpa using (show z.u ≠ x.u by omega)
    · cases hj

/-- What the program asks of each place. -/
structure WS (f : Int) (m : Nat) (x : Pl) : Prop where
  whole : x.ps = [] → hasC m x.c = true
  split : x.ps ≠ [] → SplitOk f m x
/-- What it asks of all together. -/
structure FitsOk (f : Int) (m : Nat) (l : List Pl) : Prop where
  apart : ApartP m (pcsOf l)
  room : ∀ i : Nat, i < 16 → 0 ≤ roomN f m l (i : Int)
  few : splitsN l < cnt m
theorem pcs_has {f : Int} {m : Nat} {l : List Pl} (h : ∀ x ∈ l, PlaceOk f m x) : ∀ y ∈ pcsOf l, hasC m y.c = true := fun y hy => by
  obtain ⟨x, hx, hy⟩ := mem_pcsOf.1 hy
  exact (h x hx).has y hy
theorem nOn_lack {m : Nat} {q : List Pc} (h : ∀ y ∈ q, hasC m y.c = true) {c : Nat} (hc : c < 16) (hb : m.testBit c = false) (t : Nat) : nOn q (c : Int) t = 0 := by
  rcases Nat.eq_zero_or_pos (nOn q (c : Int) t) with h0 | h0
  · exact h0
  · obtain ⟨y, hy, e, _⟩ := nOn_pos.1 h0
    have := h y hy
    rw [e, hasC_nat hc, hb] at this
    cases this
theorem check_iff {f : Int} {m : Nat} {l : List Pl} : (m ≠ 0 ∧ m < 65536) ∧ UnitsOk f l ∧ (∀ x ∈ l, WS f m x) ∧ FitsOk f m l ↔ Right f m l := by
  constructor
  · rintro ⟨⟨h1, h2⟩, hu, hw, hf⟩
    obtain ⟨hff, hp, ha⟩ := units_iff.1 hu
    have hpl : ∀ x ∈ l, PlaceOk f m x := fun x hx => ⟨(hp x hx).1, (hp x hx).2.1, (hp x hx).2.2, (hw x hx).whole, (hw x hx).split⟩
    refine ⟨hff.1, hff.2, h1, h2, hpl, ha, fun c hc t ht => ?_, by rw [← cores_cnt h2]; exact hf.few, fun c hc hb => ?_⟩
    · cases hb : m.testBit c with
      | true => exact hf.apart c hc hb t ht
      | false => rw [nOn_lack (pcs_has hpl) hc hb]; exact Nat.zero_le _
    · have := hf.room c hc
      unfold roomN at this
      rw [hasC_nat hc, hb, if_pos rfl] at this
      omega
  · intro h
    refine ⟨⟨h.m0, h.m16⟩, units_iff.2 ⟨⟨h.f2, h.f64⟩, fun x hx => ⟨(h.place x hx).unit, (h.place x hx).s1, (h.place x hx).s2⟩, h.asc⟩, fun x hx => ⟨(h.place x hx).whole, (h.place x hx).split⟩, fun i hi _ t ht => h.apart i hi t ht, fun i hi => ?_, by rw [cores_cnt h.m16]; exact h.few⟩
    unfold roomN
    rw [hasC_nat hi]
    cases hb : m.testBit i with
    | true => rw [if_pos rfl]; have := h.load i hi hb; omega
    | false => rw [if_neg (by simp)]; exact Int.le_refl _
end Go.Proofs.Ytpjmdnhoiobedaa
