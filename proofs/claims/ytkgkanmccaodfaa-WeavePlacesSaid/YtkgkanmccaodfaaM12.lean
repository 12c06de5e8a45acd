/-
  Units split along the cores, over lists of places: what each core gives, the pieces, one unit more in a right plan, all of them one behind the other.
  Conditions: none.
-/
import Derived.Test.YtkgkanmccaodfaaM09
import Derived.Test.YtkgkanmccaodfaaM11
import Derived.Test.YtkgkanmccaodfaaM06
import Derived.Test.YtkgkanmccaodfaaM08
import Derived.Test.YtkgkanmccaodfaaM05

/-
  Which plans the program finds right: the same as the document.
  Conditions: none.
-/
set_option linter.unusedVariables false
namespace Go.Proofs.Ytkgkanmccaodfaa

/-! ### The check of wants -/
theorem chkE_zero {f : Int} {b : List Sp} {y : Sp} : chkE f b y = 0 ↔ isU y.1 = true ∧ 1 ≤ y.2 ∧ y.2 ≤ f ∧ (b.any fun s => decide (s.1 = y.1)) = false := by
  unfold chkE
  cases hu : isU y.1 with
  | false => simp
  | true =>
    rw [if_neg (by simp)]
    by_cases h : y.2 < 1 ∨ f < y.2
    · rw [if_pos h]
      constructor
      · intro h'; exact absurd h' (by decide)
      · rintro ⟨_, h1, h2, _⟩; omega
    · rw [if_neg h]
      cases hb : (b.any fun s => decide (s.1 = y.1)) with
      | true => simp
      | false =>
        rw [if_neg (by simp)]
        exact ⟨fun _ => ⟨rfl, by omega, by omega, rfl⟩, fun _ => rfl⟩
theorem chkL_zero {f : Int} : ∀ (r b : List Sp), chkL f b r = 0 ↔ ∀ (i : Nat) (y : Sp), r[i]? = some y → chkE f (b ++ r.take i) y = 0
  | [], b => by simp [chkL]
  | y :: r, b => by
    unfold chkL
    constructor
    · intro h
      by_cases he : chkE f b y = 0
      · have h := (chkL_zero r (b ++ [y])).1 (by simpa [he] using h)
        intro i z hi
        cases i with
        | zero =>
          have : y = z := by simpa using hi
          subst this
          simpa using he
        | succ i =>
          have := h i z (by simpa using hi)
          simpa [List.append_assoc] using this
      · exact absurd h (by simp [he])
    · intro h
      have he : chkE f b y = 0 := by have := h 0 y rfl; simpa using this
      have h2 := (chkL_zero r (b ++ [y])).2 fun i z hi => by
        have := h (i + 1) z (by simpa using hi)
        simpa [List.append_assoc] using this
      simp [he, h2]

/-- What the program asks of units. -/
def Rises (l : List Pl) : Prop := ∀ (i : Nat) (x y : Pl), l[i]? = some x → l[i + 1]? = some y → x.u ≤ y.u
structure UnitsOk (f : Int) (l : List Pl) : Prop where
  chk : chkT f (wantsT l) = 0
  rises : Rises l
theorem Rises.far {l : List Pl} (h : Rises l) : ∀ (d i : Nat) (x y : Pl), l[i]? = some x → l[i + d]? = some y → x.u ≤ y.u
  | 0, i, x, y, hx, hy => by
    rw [Nat.add_zero, hx] at hy
    cases hy
    exact Int.le_refl _
  | d + 1, i, x, y, hx, hy => by
    have hlt : i + (d + 1) < l.length := (List.getElem?_eq_some_iff.1 hy).1
    have hz : l[i + d]? = some l[i + d] := List.getElem?_eq_getElem (by omega)
    have h1 := Rises.far h d i x _ hx hz
    have h2 := h (i + d) _ y hz (by rw [← hy]; congr 1)
    omega
theorem wants_get {l : List Pl} {i : Nat} {y : Sp} : (wantsT l)[i]? = some y ↔ ∃ x, l[i]? = some x ∧ y = (x.u, x.s) := by
  unfold wantsT
  rw [List.getElem?_map, Option.map_eq_some_iff]
  exact ⟨fun ⟨x, h1, h2⟩ => ⟨x, h1, h2.symm⟩, fun ⟨x, h1, h2⟩ => ⟨x, h1, h2.symm⟩⟩
theorem units_iff {f : Int} {l : List Pl} : UnitsOk f l ↔ (2 ≤ f ∧ f ≤ 64) ∧ (∀ x ∈ l, isU x.u = true ∧ 1 ≤ x.s ∧ x.s ≤ f) ∧ ∀ (i : Nat) (x y : Pl), l[i]? = some x → l[i + 1]? = some y → x.u < y.u := by
  constructor
  · rintro ⟨hc, hr⟩
    unfold chkT at hc
    by_cases hf : f < 2 ∨ 64 < f
    · rw [if_pos hf] at hc; exact absurd hc (by decide)
    · rw [if_neg hf] at hc
      have h := (chkL_zero (wantsT l) []).1 hc
      have key : ∀ (i : Nat) (x : Pl), l[i]? = some x → isU x.u = true ∧ 1 ≤ x.s ∧ x.s ≤ f ∧ (((wantsT l).take i).any fun s => decide (s.1 = x.u)) = false := fun i x hx => by
        have := chkE_zero.1 (h i (x.u, x.s) (wants_get.2 ⟨x, hx, rfl⟩))
        simpa using this
      refine ⟨by omega, fun x hx => ?_, fun i x y hx hy => ?_⟩
      · obtain ⟨i, hi, e⟩ := List.getElem_of_mem hx
        obtain ⟨h1, h2, h3, _⟩ := key i x (by rw [List.getElem?_eq_getElem hi, e])
        exact ⟨h1, h2, h3⟩
      · have h1 := hr i x y hx hy
        obtain ⟨_, _, _, h2⟩ := key (i + 1) y hy
        have h3 : x.u ≠ y.u := fun e => by
          have hm : (((wantsT l).take (i + 1)).any fun s => decide (s.1 = y.u)) = true := by
            rw [List.any_eq_true]
            refine ⟨(x.u, x.s), ?_, by simpa using e⟩
            rw [List.mem_iff_getElem?]
            exact ⟨i, by rw [List.getElem?_take, if_pos (by omega)]; exact wants_get.2 ⟨x, hx, rfl⟩⟩
          rw [h2] at hm
          cases hm
        omega
  · rintro ⟨hf, hp, ha⟩
    have hr : Rises l := fun i x y hx hy => by have := ha i x y hx hy; omega
    have hs : ∀ (d i : Nat) (x y : Pl), l[i]? = some x → l[i + d + 1]? = some y → x.u < y.u := fun d i x y hx hy => by
      have hlt : i + d + 1 < l.length := (List.getElem?_eq_some_iff.1 hy).1
      have hz : l[i + d]? = some l[i + d] := List.getElem?_eq_getElem (by omega)
      have h1 := hr.far d i x _ hx hz
      have h2 := ha (i + d) _ y hz hy
      omega
    refine ⟨?_, hr⟩
    unfold chkT
    rw [if_neg (by omega), chkL_zero]
    intro i y hy
    obtain ⟨x, hx, rfl⟩ := wants_get.1 hy
    obtain ⟨h1, h2, h3⟩ := hp x (List.mem_of_getElem? hx)
    rw [chkE_zero]
    refine ⟨h1, h2, h3, ?_⟩
    rw [List.any_eq_false]
    intro s hs'
    rw [List.nil_append] at hs'
    obtain ⟨j, hj⟩ := List.mem_iff_getElem?.1 hs'
    rw [List.getElem?_take] at hj
    split at hj
    · obtain ⟨z, hz, rfl⟩ := wants_get.1 hj
      rename_i hji
      obtain ⟨d, hd⟩ : ∃ d, i = j + d + 1 := ⟨i - j - 1, by omega⟩
      subst hd
      have := hs d j z x hz hx
      simpa using (show z.u ≠ x.u by omega)
    · cases hj

/-- What the program asks of each place. -/
structure WS (f : Int) (m : Nat) (x : Pl) : Prop where
  whole : x.ps = [] → hasC m x.c = true
  split : x.ps ≠ [] → SplitOk f m x
/-- What it asks of all together. -/
structure FitsOk (f : Int) (m : Nat) (l : List Pl) : Prop where
  apart : ApartP m (pcsOf l)
  room : ∀ i : Nat, i < 16 → 0 ≤ roomN f m l (i : Int)
  few : splitsN l < cnt m
theorem pcs_has {f : Int} {m : Nat} {l : List Pl} (h : ∀ x ∈ l, PlaceOk f m x) : ∀ y ∈ pcsOf l, hasC m y.c = true := fun y hy => by
  obtain ⟨x, hx, hy⟩ := mem_pcsOf.1 hy
  exact (h x hx).has y hy
theorem nOn_lack {m : Nat} {q : List Pc} (h : ∀ y ∈ q, hasC m y.c = true) {c : Nat} (hc : c < 16) (hb : m.testBit c = false) (t : Nat) : nOn q (c : Int) t = 0 := by
  rcases Nat.eq_zero_or_pos (nOn q (c : Int) t) with h0 | h0
  · exact h0
  · obtain ⟨y, hy, e, _⟩ := nOn_pos.1 h0
    have := h y hy
    rw [e, hasC_nat hc, hb] at this
    cases this
theorem check_iff {f : Int} {m : Nat} {l : List Pl} : (m ≠ 0 ∧ m < 65536) ∧ UnitsOk f l ∧ (∀ x ∈ l, WS f m x) ∧ FitsOk f m l ↔ Right f m l := by
  constructor
  · rintro ⟨⟨h1, h2⟩, hu, hw, hf⟩
    obtain ⟨hff, hp, ha⟩ := units_iff.1 hu
    have hpl : ∀ x ∈ l, PlaceOk f m x := fun x hx => ⟨(hp x hx).1, (hp x hx).2.1, (hp x hx).2.2, (hw x hx).whole, (hw x hx).split⟩
    refine ⟨hff.1, hff.2, h1, h2, hpl, ha, fun c hc t ht => ?_, by rw [← cores_cnt h2]; exact hf.few, fun c hc hb => ?_⟩
    · cases hb : m.testBit c with
      | true => exact hf.apart c hc hb t ht
      | false => rw [nOn_lack (pcs_has hpl) hc hb]; exact Nat.zero_le _
    · have := hf.room c hc
      unfold roomN at this
      rw [hasC_nat hc, hb, if_pos rfl] at this
      omega
  · intro h
    refine ⟨⟨h.m0, h.m16⟩, units_iff.2 ⟨⟨h.f2, h.f64⟩, fun x hx => ⟨(h.place x hx).unit, (h.place x hx).s1, (h.place x hx).s2⟩, h.asc⟩, fun x hx => ⟨(h.place x hx).whole, (h.place x hx).split⟩, fun i hi _ t ht => h.apart i hi t ht, fun i hi => ?_, by rw [cores_cnt h.m16]; exact h.few⟩
    unfold roomN
    rw [hasC_nat hi]
    cases hb : m.testBit i with
    | true => rw [if_pos rfl]; have := h.load i hi hb; omega
    | false => rw [if_neg (by simp)]; exact Int.le_refl _
end Go.Proofs.Ytkgkanmccaodfaa

/-
  Wants that are right are few: no more than there are units.
  Conditions: none.
-/
set_option linter.unusedVariables false
namespace Go.Proofs.Ytkgkanmccaodfaa

theorem nodup_lt : ∀ (n : Nat) (l : List Nat), l.Nodup → (∀ x ∈ l, x < n) → l.length ≤ n
  | 0, l, _, h => by
    cases l with
    | nil => exact Nat.le_refl _
    | cons x r => exact absurd (h x (by simp)) (Nat.not_lt_zero _)
  | n + 1, l, hd, h => by
    have h1 := nodup_lt n (l.erase n) (hd.erase n) (fun x hx => by
      have hm := (hd.mem_erase_iff).1 hx
      have := h x hm.2
      have := hm.1
      omega)
    rw [List.length_erase] at h1
    split at h1 <;> omega
/-- A unit's place among all. -/
def idxU (u : Int) : Nat := if u ≤ 200 then (u - 1).toNat else (u - 801).toNat
theorem idxU_lt {u : Int} (h : isU u = true) : idxU u < 240 := by
  simp [isU] at h
  unfold idxU
  split <;> omega
theorem idxU_inj {u v : Int} (hu : isU u = true) (hv : isU v = true) (h : idxU u = idxU v) : u = v := by
  simp [isU] at hu hv
  unfold idxU at h
  split at h <;> split at h <;> omega
theorem few_wants {f : Int} {l : List Sp} (h : chkT f l = 0) : l.length ≤ 240 := by
  unfold chkT at h
  by_cases hf : f < 2 ∨ 64 < f
  · rw [if_pos hf] at h; exact absurd h (by decide)
  · rw [if_neg hf] at h
    have hz := (chkL_zero l []).1 h
    have hall : ∀ (i : Nat) (y : Sp), l[i]? = some y → isU y.1 = true ∧ ∀ s ∈ l.take i, s.1 ≠ y.1 := fun i y hy => by
      obtain ⟨h1, _, _, h4⟩ := chkE_zero.1 (hz i y hy)
      refine ⟨h1, fun s hs he => ?_⟩
      rw [List.nil_append, List.any_eq_false] at h4
      exact h4 s hs (decide_eq_true he)
    have h1 : (l.map fun y => idxU y.1).length ≤ 240 := by
      refine nodup_lt 240 _ ?_ ?_
      · rw [List.Nodup, List.pairwise_iff_getElem]
        intro i j hi hj hij he
        rw [List.length_map] at hi hj
        rw [List.getElem_map, List.getElem_map] at he
        have hyi := List.getElem?_eq_getElem hi
        have hyj := List.getElem?_eq_getElem hj
        obtain ⟨u1, _⟩ := hall i _ hyi
        obtain ⟨u2, n2⟩ := hall j _ hyj
        refine n2 l[i] ?_ (idxU_inj u1 u2 he)
        rw [List.mem_take_iff_getElem]
        exact ⟨i, by omega, rfl⟩
      · intro x hx
        obtain ⟨y, hy, rfl⟩ := List.mem_map.1 hx
        obtain ⟨i, hi⟩ := List.getElem?_of_mem hy
        exact idxU_lt (hall i y hi).1
    rwa [List.length_map] at h1
/-- Numbers of their kinds, pieces that are few: a plan as tables make it. -/
structure WideL (l : List Pl) : Prop where
  len : l.length ≤ 1200000
  ok : ∀ x ∈ l, PlOk x ∧ x.ps.length ≤ 1000
theorem LightL.wide {l : List Pl} (h : LightL l) : WideL l := ⟨by have := h.len; omega, h.ok⟩
theorem WideL.light {l : List Pl} (h : WideL l) {f : Int} (hc : chkT f (wantsT l) = 0) : LightL l :=
  ⟨by have := few_wants hc; rw [wantsT_length] at this; omega, h.ok⟩
end Go.Proofs.Ytkgkanmccaodfaa

/-
  First fit by falling sizes over lists of places: the first core with room, one unit more in a right plan, all of them one behind the other, and when it is sure that nobody is left over.
  Conditions: none.
-/
set_option linter.unusedVariables false
namespace Go.Proofs.Ytkgkanmccaodfaa

/-! ### The first core that has room -/
def roomB (f : Int) (m : Nat) (l : List Pl) (s : Int) (c : Nat) : Bool := m.testBit c && decide (s ≤ roomN f m l (c : Int))
def firstR (f : Int) (m : Nat) (l : List Pl) (s : Int) : Option Nat := (List.range 16).find? (roomB f m l s)
theorem firstR_none {f : Int} {m : Nat} {l : List Pl} {s : Int} : firstR f m l s = none ↔ ∀ j, j < 16 → roomB f m l s j = false := by
  unfold firstR
  rw [List.find?_range_eq_none]
  simp
theorem firstR_some {f : Int} {m : Nat} {l : List Pl} {s : Int} {c : Nat} : firstR f m l s = some c ↔ c < 16 ∧ roomB f m l s c = true ∧ ∀ j, j < c → roomB f m l s j = false := by
  unfold firstR
  rw [List.find?_range_eq_some]
  simp only [List.mem_range, Bool.not_eq_true']
  exact ⟨fun h => ⟨h.2.1, h.1, h.2.2⟩, fun h => ⟨h.2.1, h.1, h.2.2⟩⟩
theorem roomB_iff {f : Int} {m : Nat} {l : List Pl} {s : Int} {c : Nat} : roomB f m l s c = true ↔ m.testBit c = true ∧ s ≤ roomN f m l (c : Int) := by
  unfold roomB
  rw [Bool.and_eq_true, decide_eq_true_iff]
theorem roomB_no {f : Int} {m : Nat} {l : List Pl} {s : Int} {c : Nat} : roomB f m l s c = false ↔ (m.testBit c = true → roomN f m l (c : Int) < s) := by
  rw [← Bool.not_eq_true, roomB_iff]
  constructor
  · intro h hb
    have : ¬ s ≤ roomN f m l (c : Int) := fun e => h ⟨hb, e⟩
    omega
  · intro h hb
    have := h hb.1
    omega

/-! ### A unit's place among rising ones -/
def Asc (l : List Pl) : Prop := l.Pairwise fun x y => x.u < y.u
theorem Right.pairs {f : Int} {m : Nat} {l : List Pl} (h : Right f m l) : Asc l := by
  unfold Asc
  rw [List.pairwise_iff_getElem]
  intro i j hi hj hij
  exact h.rise hij (List.getElem?_eq_getElem hi) (List.getElem?_eq_getElem hj)
theorem Asc.next {l : List Pl} (h : Asc l) {i : Nat} {x y : Pl} (hx : l[i]? = some x) (hy : l[i + 1]? = some y) : x.u < y.u := by
  obtain ⟨h1, rfl⟩ := List.getElem?_eq_some_iff.1 hx
  obtain ⟨h2, rfl⟩ := List.getElem?_eq_some_iff.1 hy
  exact List.pairwise_iff_getElem.1 h i (i + 1) h1 h2 (Nat.lt_succ_self i)
def posU (d : List Pl) (u : Int) : Nat := d.countP fun y => decide (y.u < u)
theorem posU_at (u : Int) : ∀ (d : List Pl), Asc d → PutAt d u (posU d u)
  | [], _ => ⟨Nat.le_refl _, fun j y h => by simp at h⟩
  | x :: d, h => by
    obtain ⟨h1, h2⟩ := List.pairwise_cons.1 h
    have ih := posU_at u d h2
    refine ⟨List.countP_le_length, fun j y hy => ?_⟩
    unfold posU
    rw [List.countP_cons]
    by_cases hx : x.u < u
    · rw [if_pos (decide_eq_true hx)]
      rcases j with _ | j
      · rw [List.getElem?_cons_zero] at hy
        rw [← Option.some.inj hy]
        omega
      · rw [List.getElem?_cons_succ] at hy
        have := ih.less j y hy
        unfold posU at this
        omega
    · rw [if_neg (by simpa using hx)]
      have h0 : (d.countP fun y => decide (y.u < u)) = 0 := by
        rw [List.countP_eq_zero]
        intro z hz
        have := h1 z hz
        simp
        omega
      rw [h0]
      rcases j with _ | j
      · rw [List.getElem?_cons_zero] at hy
        rw [← Option.some.inj hy]
        omega
      · rw [List.getElem?_cons_succ] at hy
        have := h1 y (List.mem_of_getElem? hy)
        omega
theorem drop_absent {l : List Pl} {u : Int} (h : ∀ x ∈ l, x.u ≠ u) : dropT l u = l := List.filter_eq_self.2 fun x hx => by simp [h x hx]
theorem dropT_asc {l : List Pl} (h : Asc l) (u : Int) : Asc (dropT l u) := h.filter _
/-- A plan's places with one more. -/
def addU (l : List Pl) (x : Pl) : List Pl := putPl (dropT l x.u) x (posU (dropT l x.u) x.u)
theorem addU_eq {l : List Pl} {x : Pl} (h : ∀ y ∈ l, y.u ≠ x.u) : addU l x = putPl l x (posU l x.u) := by
  unfold addU
  rw [drop_absent h]
theorem putPl_length {d : List Pl} {x : Pl} {k : Nat} : (putPl d x k).length = d.length + 1 := by
  unfold putPl
  rw [List.length_append, List.length_append, List.length_take, List.length_drop, List.length_singleton]
  omega
theorem putPl_mem {d : List Pl} {x y : Pl} {k : Nat} : y ∈ putPl d x k ↔ y = x ∨ y ∈ d := by
  unfold putPl
  rw [List.mem_append, List.mem_append, List.mem_singleton]
  conv => rhs; rw [← List.take_append_drop k d, List.mem_append]
  constructor
  · rintro ((h | h) | h)
    · exact .inr (.inl h)
    · exact .inl h
    · exact .inr (.inr h)
  · rintro (h | h | h)
    · exact .inl (.inr h)
    · exact .inl (.inl h)
    · exact .inr h
/-- What is counted over all places, with one more. -/
theorem put_sum (F : List Pl → Int) (hF : ∀ a b, F (a ++ b) = F a + F b) (d : List Pl) (x : Pl) (k : Nat) : F (putPl d x k) = F d + F [x] := by
  unfold putPl
  rw [hF, hF]
  conv => rhs; rw [← List.take_append_drop k d, hF]
  omega
theorem put_pcs {d : List Pl} {x : Pl} (hx : x.ps = []) (k : Nat) : pcsOf (putPl d x k) = pcsOf d := by
  unfold putPl
  have e : ∀ a b : List Pl, pcsOf (a ++ b) = pcsOf a ++ pcsOf b := fun a b => by simp [pcsOf]
  rw [e, e]
  conv => rhs; rw [← List.take_append_drop k d, e]
  rw [show pcsOf [x] = [] by simp [pcsOf, hx], List.append_nil]
theorem wholes_append (a b : List Pl) (c : Int) : wholesT (a ++ b) c = wholesT a c ++ wholesT b c := by unfold wholesT; rw [List.filter_append, List.map_append]
theorem put_load {d : List Pl} {x : Pl} (hx : x.ps = []) (k : Nat) (c : Int) : loadN (putPl d x k) c = loadN d c + (if x.c = c then x.s else 0) := by
  unfold loadN
  rw [put_pcs hx, put_sum (fun l => sumS (wholesT l c)) (fun a b => by simp only [wholes_append, sumS_append])]
  have e : sumS (wholesT [x] c) = if x.c = c then x.s else 0 := by
    rw [wholesT_cons]
    unfold wholeB
    rw [hx]
    by_cases h : x.c = c
    · simp [h, wholesT, sumS]
    · simp [h, wholesT, sumS]
  omega
theorem put_room {f : Int} {m : Nat} {d : List Pl} {x : Pl} (hx : x.ps = []) (k : Nat) (c : Nat) : roomN f m (putPl d x k) (c : Int) = if hasC m (c : Int) = true then f - loadN d (c : Int) - (if x.c = (c : Int) then x.s else 0) else 0 := by
  unfold roomN
  rw [put_load hx]
  split
  · omega
  · rfl
theorem put_asc {d : List Pl} {x : Pl} (h : Asc d) (hn : ∀ y ∈ d, y.u ≠ x.u) : Asc (putPl d x (posU d x.u)) := by
  have hp := posU_at x.u d h
  unfold putPl Asc
  rw [List.pairwise_append, List.pairwise_append]
  have ht : ∀ y ∈ d.take (posU d x.u), y.u < x.u := fun y hy => by
    obtain ⟨j, hj⟩ := List.mem_iff_getElem?.1 hy
    rw [List.getElem?_take] at hj
    split at hj
    · exact (hp.less j y hj).2 (by assumption)
    · cases hj
  have hd : ∀ y ∈ d.drop (posU d x.u), x.u < y.u := fun y hy => by
    obtain ⟨j, hj⟩ := List.mem_iff_getElem?.1 hy
    rw [List.getElem?_drop] at hj
    have h1 := hp.less _ y hj
    have h2 := hn y (List.mem_of_getElem? hj)
    omega
  have hs : (d.take (posU d x.u) ++ d.drop (posU d x.u)).Pairwise fun x y => x.u < y.u := by rw [List.take_append_drop]; exact h
  obtain ⟨s1, s2, s3⟩ := List.pairwise_append.1 hs
  refine ⟨⟨s1, List.pairwise_singleton _ _, fun a ha b hb => ?_⟩, s2, fun a ha b hb => ?_⟩
  · rw [List.mem_singleton.1 hb]
    exact ht a ha
  · rcases List.mem_append.1 ha with ha | ha
    · exact s3 a ha b hb
    · rw [List.mem_singleton.1 ha]
      exact hd b hb
/-- A unit that is placed whole where there is room. -/
theorem Right.put {f : Int} {m : Nat} {l : List Pl} (h : Right f m l) {u s : Int} {c : Nat} (hn : ∀ y ∈ l, y.u ≠ u) (hu : isU u = true) (h1 : 1 ≤ s) (h2 : s ≤ f) (hc : c < 16) (hr : roomB f m l s c = true) : Right f m (addU l ⟨u, s, (c : Int), []⟩) := by
  have hn' : ∀ y ∈ l, y.u ≠ (⟨u, s, (c : Int), []⟩ : Pl).u := hn
  obtain ⟨hb, hs⟩ := roomB_iff.1 hr
  rw [addU_eq hn']
  have ha := put_asc h.pairs hn'
  refine ⟨h.f2, h.f64, h.m0, h.m16, fun y hy => ?_, fun i x y hx hy => ha.next hx hy, ?_, ?_, fun c' hc' hb' => ?_⟩
  · rcases putPl_mem.1 hy with rfl | hy
    · exact ⟨hu, h1, h2, fun _ => by show hasC m (c : Int) = true; rw [hasC_nat hc]; exact hb, fun e => absurd rfl e⟩
    · exact h.place y hy
  · rw [put_pcs rfl]
    exact h.apart
  · have e : (splitsN (putPl l ⟨u, s, (c : Int), []⟩ (posU l u)) : Int) = (splitsN l : Int) + (splitsN [⟨u, s, (c : Int), []⟩] : Int) := put_sum (fun l => (splitsN l : Int)) (fun a b => by show ((splitsN (a ++ b) : Nat) : Int) = _; unfold splitsN; rw [List.countP_append]; omega) _ _ _
    have e2 : splitsN [⟨u, s, (c : Int), []⟩] = 0 := rfl
    have := h.few
    show splitsN (putPl l ⟨u, s, (c : Int), []⟩ (posU l u)) < coresN m
    omega
  · rw [put_load rfl]
    have h3 := h.load c' hc' hb'
    by_cases e : (c : Int) = (c' : Int)
    · have : c = c' := by omega
      subst this
      unfold roomN at hs
      rw [hasC_nat hc', hb', if_pos rfl] at hs
      rw [if_pos rfl]
      show _ + s ≤ f
      omega
    · rw [if_neg e]
      omega
theorem put_roomB {f : Int} {m : Nat} {l : List Pl} {u s t : Int} {c c' : Nat} (hn : ∀ y ∈ l, y.u ≠ u) (h1 : 0 ≤ s) (h : roomB f m l t c' = false) : roomB f m (addU l ⟨u, s, (c : Int), []⟩) t c' = false := by
  have hn' : ∀ y ∈ l, y.u ≠ (⟨u, s, (c : Int), []⟩ : Pl).u := hn
  rw [roomB_no] at h ⊢
  intro hb
  have h2 := h hb
  rw [addU_eq hn', put_room rfl]
  unfold roomN at h2
  split
  · rw [if_pos (by assumption)] at h2
    split
    · show _ - s < t
      omega
    · omega
  · rw [if_neg (by assumption)] at h2
    exact h2

/-! ### Wants, one behind the other -/
def fitS (f : Int) (m : Nat) (st : List Pl × List Sp) (w : Sp) : List Pl × List Sp :=
  match firstR f m st.1 w.2 with
  | some c => (addU st.1 ⟨w.1, w.2, (c : Int), []⟩, st.2)
  | none => (st.1, st.2 ++ [w])
def fitT (f : Int) (m : Nat) (l : List Pl) (ws : List Sp) : List Pl × List Sp := ws.foldl (fitS f m) (l, [])
theorem fitT_snoc (f : Int) (m : Nat) (l : List Pl) (ws : List Sp) (w : Sp) : fitT f m l (ws ++ [w]) = fitS f m (fitT f m l ws) w := by unfold fitT; rw [List.foldl_append]; rfl
theorem fitT_take {f : Int} {m : Nat} {l : List Pl} {ws : List Sp} {k : Nat} {w : Sp} (h : ws[k]? = some w) : fitT f m l (ws.take (k + 1)) = fitS f m (fitT f m l (ws.take k)) w := by
  rw [List.take_add_one, h, Option.toList_some, fitT_snoc]
theorem fitS_some {f : Int} {m : Nat} {st : List Pl × List Sp} {w : Sp} {c : Nat} (h : firstR f m st.1 w.2 = some c) : fitS f m st w = (addU st.1 ⟨w.1, w.2, (c : Int), []⟩, st.2) := by unfold fitS; rw [h]
theorem fitS_none {f : Int} {m : Nat} {st : List Pl × List Sp} {w : Sp} (h : firstR f m st.1 w.2 = none) : fitS f m st w = (st.1, st.2 ++ [w]) := by unfold fitS; rw [h]
/-- Wants that may be placed, of units of their own. -/
structure WOk (f : Int) (ws : List Sp) : Prop where
  all : ∀ w ∈ ws, isU w.1 = true ∧ 1 ≤ w.2 ∧ w.2 ≤ f
  two : (ws.map Prod.fst).Nodup
theorem WOk.perm {f : Int} {a b : List Sp} (h : WOk f a) (hp : b.Perm a) : WOk f b := ⟨fun w hw => h.all w (hp.mem_iff.1 hw), (hp.map _).nodup_iff.2 h.two⟩
theorem WOk.of_chk {f : Int} {ws : List Sp} (h : chkT f ws = 0) : (2 ≤ f ∧ f ≤ 64) ∧ WOk f ws := by
  unfold chkT at h
  by_cases hf : f < 2 ∨ 64 < f
  · rw [if_pos hf] at h; exact absurd h (by decide)
  · rw [if_neg hf] at h
    have hz := (chkL_zero ws []).1 h
    refine ⟨by omega, fun w hw => ?_, ?_⟩
    · obtain ⟨i, hi⟩ := List.mem_iff_getElem?.1 hw
      obtain ⟨h1, h2, h3, _⟩ := chkE_zero.1 (hz i w hi)
      exact ⟨h1, h2, h3⟩
    · rw [List.Nodup, List.pairwise_iff_getElem]
      intro i j hi hj hij he
      rw [List.length_map] at hi hj
      rw [List.getElem_map, List.getElem_map] at he
      obtain ⟨_, _, _, h4⟩ := chkE_zero.1 (hz j _ (List.getElem?_eq_getElem hj))
      rw [List.nil_append, List.any_eq_false] at h4
      exact h4 ws[i] (by rw [List.mem_take_iff_getElem]; exact ⟨i, by omega, rfl⟩) (decide_eq_true he)
theorem WOk.front {f : Int} {a b : List Sp} (h : WOk f (a ++ b)) : WOk f a := ⟨fun w hw => h.all w (List.mem_append_left _ hw), by
  have := h.two
  rw [List.map_append] at this
  exact (List.nodup_append.1 this).1⟩
theorem WOk.last {f : Int} {a : List Sp} {w : Sp} (h : WOk f (a ++ [w])) : ∀ v ∈ a, v.1 ≠ w.1 := fun v hv e => by
  have := h.two
  rw [List.map_append] at this
  exact (List.nodup_append.1 this).2.2 v.1 (List.mem_map_of_mem hv) w.1 (by simp) e
/-- What holds behind some wants. -/
structure FitInv (f : Int) (m : Nat) (l0 : List Pl) (ws : List Sp) (st : List Pl × List Sp) : Prop where
  right : Right f m st.1
  units : ∀ x ∈ st.1, x ∈ l0 ∨ ∃ w ∈ ws, w.1 = x.u
  keep : ∀ x ∈ l0, x ∈ st.1
  len : st.1.length + st.2.length = l0.length + ws.length
  tight : ∀ w ∈ st.2, firstR f m st.1 w.2 = none
  ok : (∀ x ∈ l0, PlOk x ∧ x.ps.length ≤ 1000) → ∀ x ∈ st.1, PlOk x ∧ x.ps.length ≤ 1000
  sum : sumS (wantsT st.1) + sumS st.2 = sumS (wantsT l0) + sumS ws
  mem : ∀ w ∈ st.2, w ∈ ws
theorem isU_range {u : Int} (h : isU u = true) : 1 ≤ u ∧ u ≤ 1040 := by
  simp [isU] at h
  omega
theorem FitInv.next {f : Int} {m : Nat} {l0 : List Pl} {ws : List Sp} {st : List Pl × List Sp} {w : Sp} (h : FitInv f m l0 ws st) (hw : WOk f (ws ++ [w])) (h0 : ∀ x ∈ l0, x.u ≠ w.1) : FitInv f m l0 (ws ++ [w]) (fitS f m st w) := by
  obtain ⟨hu, h1, h2⟩ := hw.all w (by simp)
  have hn : ∀ y ∈ st.1, y.u ≠ w.1 := fun y hy => by
    rcases h.units y hy with hl | ⟨v, hv, he⟩
    · exact h0 y hl
    · rw [← he]
      exact hw.last v hv
  cases hf : firstR f m st.1 w.2 with
  | none =>
    rw [fitS_none hf]
    refine ⟨h.right, fun x hx => ?_, h.keep, ?_, fun v hv => ?_, h.ok, ?_, fun v hv => ?_⟩
    · rcases h.units x hx with hl | ⟨v, hv, he⟩
      · exact .inl hl
      · exact .inr ⟨v, List.mem_append_left _ hv, he⟩
    · have := h.len
      simp only [List.length_append, List.length_singleton]
      omega
    · rcases List.mem_append.1 hv with hv | hv
      · exact h.tight v hv
      · rw [List.mem_singleton.1 hv]
        exact hf
    · have := h.sum
      simp only [sumS_append]
      omega
    · rcases List.mem_append.1 hv with hv | hv
      · exact List.mem_append_left _ (h.mem v hv)
      · exact List.mem_append_right _ hv
  | some c =>
    rw [fitS_some hf]
    obtain ⟨hc, hb, _⟩ := firstR_some.1 hf
    have hn' : ∀ y ∈ st.1, y.u ≠ (⟨w.1, w.2, (c : Int), []⟩ : Pl).u := hn
    have hR := h.right.put hn hu h1 h2 hc hb
    refine ⟨hR, fun x hx => ?_, fun x hx => ?_, ?_, fun v hv => ?_, fun ho x hx => ?_, ?_, fun v hv => List.mem_append_left _ (h.mem v hv)⟩
    · have hx' : x ∈ addU st.1 ⟨w.1, w.2, (c : Int), []⟩ := hx
      rw [addU_eq hn'] at hx'
      rcases putPl_mem.1 hx' with rfl | hl
      · exact .inr ⟨w, by simp, rfl⟩
      · rcases h.units x hl with hl | ⟨v, hv, he⟩
        · exact .inl hl
        · exact .inr ⟨v, List.mem_append_left _ hv, he⟩
    · show x ∈ addU st.1 ⟨w.1, w.2, (c : Int), []⟩
      rw [addU_eq hn']
      exact putPl_mem.2 (.inr (h.keep x hx))
    · show (addU st.1 ⟨w.1, w.2, (c : Int), []⟩).length + st.2.length = _
      rw [addU_eq hn', putPl_length, List.length_append, List.length_singleton]
      have := h.len
      omega
    · have := h.tight v hv
      rw [firstR_none] at this ⊢
      exact fun j hj => put_roomB hn (by omega) (this j hj)
    · have hx' : x ∈ addU st.1 ⟨w.1, w.2, (c : Int), []⟩ := hx
      rw [addU_eq hn'] at hx'
      rcases putPl_mem.1 hx' with rfl | hl
      · have hf64 := h.right.f64
        have hr := isU_range hu
        refine ⟨⟨?_, ?_, ?_, fun y hy => by cases hy⟩, by simp⟩
        · show Int64 w.1
          unfold Int64; omega
        · show Int64 w.2
          unfold Int64; omega
        · show Int64 (c : Int)
          unfold Int64; omega
      · exact h.ok ho x hl
    · show sumS (wantsT (addU st.1 ⟨w.1, w.2, (c : Int), []⟩)) + sumS st.2 = _
      rw [addU_eq hn', put_sum (fun l => sumS (wantsT l)) (fun a b => by show sumS (wantsT (a ++ b)) = _; unfold wantsT; rw [List.map_append, sumS_append])]
      have := h.sum
      rw [sumS_append]
      have e1 : sumS (wantsT [⟨w.1, w.2, (c : Int), []⟩]) = w.2 := by simp [wantsT, sumS]
      have e2 : sumS [w] = w.2 := by simp [sumS]
      omega
theorem fit_inv {f : Int} {m : Nat} {l0 : List Pl} (hr : Right f m l0) {ws : List Sp} (hw : WOk f ws) (h0 : ∀ x ∈ l0, ∀ w ∈ ws, x.u ≠ w.1) : ∀ k : Nat, k ≤ ws.length → FitInv f m l0 (ws.take k) (fitT f m l0 (ws.take k))
  | 0, _ => ⟨hr, fun x hx => .inl hx, fun x hx => hx, rfl, (fun w hw => by cases hw), fun ho => ho, rfl, (fun w hw => by cases hw)⟩
  | k + 1, hk => by
    have ih := fit_inv hr hw h0 k (by omega)
    have hx : ws[k]? = some ws[k] := List.getElem?_eq_getElem (by omega)
    rw [fitT_take hx, List.take_add_one, hx, Option.toList_some]
    have hwk : WOk f (ws.take k ++ [ws[k]]) := by
      have e : ws.take (k + 1) = ws.take k ++ [ws[k]] := by rw [List.take_add_one, hx, Option.toList_some]
      rw [← e]
      exact WOk.front (b := ws.drop (k + 1)) (by rw [List.take_append_drop]; exact hw)
    exact ih.next hwk fun x hx' => h0 x hx' ws[k] (List.getElem_mem (by omega))
theorem fit_all {f : Int} {m : Nat} {l0 : List Pl} (hr : Right f m l0) {ws : List Sp} (hw : WOk f ws) (h0 : ∀ x ∈ l0, ∀ w ∈ ws, x.u ≠ w.1) : FitInv f m l0 ws (fitT f m l0 ws) := by
  have := fit_inv hr hw h0 ws.length (Nat.le_refl _)
  rwa [List.take_length] at this
/-- Of units of their own, Find finds each. -/
theorem Right.found {f : Int} {m : Nat} {l : List Pl} (h : Right f m l) {x : Pl} (hx : x ∈ l) : findU l x.u = some x := by
  unfold findU
  have hne : (l.find? fun y => decide (y.u = x.u)) ≠ none := by
    rw [Ne, List.find?_eq_none]
    intro e
    exact e x hx (decide_eq_true rfl)
  obtain ⟨y, hy⟩ := Option.ne_none_iff_exists'.1 hne
  rw [hy]
  have hu : y.u = x.u := by simpa using List.find?_some hy
  have hm := List.mem_of_find?_eq_some hy
  obtain ⟨i, hi⟩ := List.mem_iff_getElem?.1 hm
  obtain ⟨j, hj⟩ := List.mem_iff_getElem?.1 hx
  rcases Nat.lt_trichotomy i j with hlt | rfl | hlt
  · have := h.rise hlt hi hj; omega
  · rw [hi] at hj; exact hj
  · have := h.rise hlt hj hi; omega

/-! ### Why wants are not placed -/
def anyB (l : List Pl) (ws : List Sp) : Bool := ws.any fun w => (findU l w.1).isSome
def Why (f : Int) (m : Nat) (l : List Pl) (ws : List Sp) (E : Int) : Prop :=
  (¬ Right f m l ∧ E = 30) ∨ (Right f m l ∧ chkT f ws ≠ 0 ∧ E = chkT f ws) ∨ (Right f m l ∧ chkT f ws = 0 ∧ anyB l ws = true ∧ E = 11) ∨ (Right f m l ∧ chkT f ws = 0 ∧ anyB l ws = false ∧ E = 0)
theorem Why.unique {f : Int} {m : Nat} {l : List Pl} {ws : List Sp} {E E' : Int} (h : Why f m l ws E) (h' : Why f m l ws E') : E = E' := by
  rcases h with ⟨h1, rfl⟩ | ⟨h1, h2, rfl⟩ | ⟨h1, h2, h3, rfl⟩ | ⟨h1, h2, h3, rfl⟩ <;> rcases h' with ⟨k1, rfl⟩ | ⟨k1, k2, rfl⟩ | ⟨k1, k2, k3, rfl⟩ | ⟨k1, k2, k3, rfl⟩ <;> simp_all
structure Goes (f : Int) (m : Nat) (l : List Pl) (ws : List Sp) : Prop where
  right : Right f m l
  chk : chkT f ws = 0
  none : anyB l ws = false
theorem Why.zero {f : Int} {m : Nat} {l : List Pl} {ws : List Sp} (h : Why f m l ws 0) : Goes f m l ws := by
  rcases h with ⟨h1, h0⟩ | ⟨h1, h2, h0⟩ | ⟨h1, h2, h3, h0⟩ | ⟨h1, h2, h3, _⟩
  · exact absurd h0 (by decide)
  · exact absurd h0.symm h2
  · exact absurd h0 (by decide)
  · exact ⟨h1, h2, h3⟩
theorem Goes.why {f : Int} {m : Nat} {l : List Pl} {ws : List Sp} (h : Goes f m l ws) : Why f m l ws 0 := .inr (.inr (.inr ⟨h.right, h.chk, h.none, rfl⟩))
theorem anyB_no {l : List Pl} {ws : List Sp} (h : anyB l ws = false) : ∀ x ∈ l, ∀ w ∈ ws, x.u ≠ w.1 := fun x hx w hw e => by
  unfold anyB at h
  rw [List.any_eq_false] at h
  refine h w hw ?_
  unfold findU
  rw [List.find?_isSome]
  exact ⟨x, hx, decide_eq_true e⟩
theorem Goes.inv {f : Int} {m : Nat} {l : List Pl} {ws : List Sp} (h : Goes f m l ws) {k : Nat} (hk : k ≤ ws.length) : FitInv f m l ((sortT ws).take k) (fitT f m l ((sortT ws).take k)) :=
  fit_inv h.right ((WOk.of_chk h.chk).2.perm (sortT_perm ws)) (fun x hx w hw => anyB_no h.none x hx w ((sortT_perm ws).mem_iff.1 hw)) k (by rw [sortT_length]; exact hk)
theorem Goes.all {f : Int} {m : Nat} {l : List Pl} {ws : List Sp} (h : Goes f m l ws) : FitInv f m l (sortT ws) (fitT f m l (sortT ws)) := by
  have := h.inv (k := ws.length) (Nat.le_refl _)
  rwa [show (sortT ws).take ws.length = sortT ws by rw [← sortT_length ws, List.take_length]] at this

/-! ### When it is sure -/
def maxT : List Sp → Int
  | [] => 0
  | w :: r => max w.2 (maxT r)
theorem maxT_snoc : ∀ (l : List Sp) (w : Sp), 1 ≤ w.2 → maxT (l ++ [w]) = max (maxT l) w.2
  | [], w, h => by simp [maxT]; omega
  | x :: l, w, h => by rw [List.cons_append, maxT, maxT, maxT_snoc l w h]; omega
theorem maxT_le : ∀ (l : List Sp), ∀ w ∈ l, w.2 ≤ maxT l
  | [], w, h => by cases h
  | x :: l, w, h => by
    rw [maxT]
    rcases List.mem_cons.1 h with rfl | h
    · omega
    · have := maxT_le l w h; omega
theorem maxT_nonneg : ∀ l : List Sp, 0 ≤ maxT l
  | [] => Int.le_refl _
  | x :: l => by have := maxT_nonneg l; rw [maxT]; omega
theorem maxT_bound {B : Int} (hB : 0 ≤ B) : ∀ l : List Sp, (∀ w ∈ l, w.2 ≤ B) → maxT l ≤ B
  | [], _ => hB
  | x :: l, h => by
    have h1 := maxT_bound hB l fun w hw => h w (by simp [hw])
    have h2 := h x (by simp)
    rw [maxT]; omega
def sureT (f c : Int) (ws : List Sp) : Bool := decide (chkT f ws = 0) && (decide (1 ≤ c ∧ c ≤ 16) && decide (sumS ws + (c - 1) * maxT ws < c * f + c))
theorem overC_le {m : Nat} {g h : Nat → Int} : ∀ {k : Nat}, (∀ c, c < k → m.testBit c = true → g c ≤ h c) → overC m g k ≤ overC m h k
  | 0, _ => Int.le_refl _
  | k + 1, e => by
    rw [overC, overC]
    have h1 := overC_le (k := k) fun c hc hb => e c (by omega) hb
    by_cases hb : m.testBit k = true
    · rw [if_pos hb, if_pos hb]
      have := e k (by omega) hb
      omega
    · rw [if_neg hb, if_neg hb]
      omega
theorem sum_mem : ∀ {l : List Sp} {w : Sp}, (∀ v ∈ l, 0 ≤ v.2) → w ∈ l → w.2 ≤ sumS l
  | [], w, _, h => by cases h
  | x :: l, w, h0, h => by
    have hs : ∀ l : List Sp, (∀ v ∈ l, 0 ≤ v.2) → 0 ≤ sumS l := fun l => by
      induction l with
      | nil => intro _; exact Int.le_refl _
      | cons y l ih =>
        intro h0
        have := ih fun v hv => h0 v (by simp [hv])
        have := h0 y (by simp)
        rw [sumS]; omega
    rw [sumS]
    rcases List.mem_cons.1 h with rfl | h
    · have := hs l fun v hv => h0 v (by simp [hv])
      omega
    · have := sum_mem (fun v hv => h0 v (by simp [hv])) h
      have := h0 x (by simp)
      omega
/-- Where a share is left over there is little room on each core. -/
theorem free_tight {f : Int} {m : Nat} {l : List Pl} {s : Int} (h : firstR f m l s = none) : freeT f m l 16 ≤ (s - 1) * (coresN m : Int) := by
  rw [free_over f m l 16 (Nat.le_refl _)]
  unfold coresN
  rw [← overC_const]
  refine overC_le fun c hc hb => ?_
  have h1 := roomB_no.1 (firstR_none.1 h c hc) hb
  unfold roomN at h1
  rw [hasC_nat hc, if_pos hb] at h1
  omega
/-- If it is sure, nobody is left over. -/
theorem sure_none {f c : Int} {m : Nat} {ws : List Sp} (hs : sureT f c ws = true) (hm : (coresN m : Int) = c) (hr : Right f m []) : (fitT f m [] (sortT ws)).2 = [] := by
  unfold sureT at hs
  rw [Bool.and_eq_true, Bool.and_eq_true, decide_eq_true_iff, decide_eq_true_iff, decide_eq_true_iff] at hs
  obtain ⟨hc0, ⟨hc1, hc16⟩, hlt⟩ := hs
  have hg : Goes f m [] ws := ⟨hr, hc0, by unfold anyB; rw [List.any_eq_false]; intro w _; simp [findU]⟩
  have hI := hg.all
  have hW := (WOk.of_chk hc0).2
  refine List.eq_nil_iff_forall_not_mem.2 fun w hw => ?_
  have ht := free_tight (hI.tight w hw)
  have hall := hI.right.all
  have hsum := hI.sum
  have hmem : w ∈ ws := (sortT_perm ws).mem_iff.1 (hI.mem w hw)
  have hws : sumS (sortT ws) = sumS ws := by
    have key : ∀ {a b : List Sp}, a.Perm b → sumS a = sumS b := fun h => by
      induction h with
      | nil => rfl
      | cons x _ ih => rw [sumS, sumS, ih]
      | swap x y l => rw [sumS, sumS, sumS, sumS]; omega
      | trans _ _ h1 h2 => exact h1.trans h2
    exact key (sortT_perm ws)
  have h2 : w.2 ≤ sumS (fitT f m [] (sortT ws)).2 := sum_mem (fun v hv => by
    have := hW.all v ((sortT_perm ws).mem_iff.1 (hI.mem v hv))
    omega) hw
  have h3 : w.2 ≤ maxT ws := maxT_le ws w hmem
  have h4 : (c - 1) * w.2 ≤ (c - 1) * maxT ws := Int.mul_le_mul_of_nonneg_left h3 (by omega)
  have e0 : sumS (wantsT []) = 0 := rfl
  rw [hm] at ht hall
  rw [e0, hws] at hsum
  have e1 : (w.2 - 1) * c = c * w.2 - c := by rw [Int.sub_mul, Int.mul_comm]; omega
  have e2 : (c - 1) * w.2 = c * w.2 - w.2 := by rw [Int.sub_mul]; omega
  have e3 : f * c = c * f := Int.mul_comm _ _
  rw [e1] at ht
  rw [e3] at hall
  omega
end Go.Proofs.Ytkgkanmccaodfaa

/-
  Units split along the cores, over lists of places: what each core gives, the pieces, one unit more in a right plan, all of them one behind the other.
  Conditions: none.
-/
set_option linter.unusedVariables false
namespace Go.Proofs.Ytkgkanmccaodfaa

/-! ### What each core gives -/
def takeN (r : Nat → Nat) (s c : Nat) : Nat := min (r c) (s - sumTo r c)
/-- How much was given ahead of a core. -/
def loN (r : Nat → Nat) (s c : Nat) : Nat := min s (sumTo r c)
theorem lo_succ (r : Nat → Nat) (s c : Nat) : loN r s (c + 1) = loN r s c + takeN r s c := by unfold loN takeN; rw [sumTo]; omega
theorem lo_zero (r : Nat → Nat) (s : Nat) : loN r s 0 = 0 := by unfold loN; rw [sumTo]; omega
theorem take_sum (r : Nat → Nat) (s : Nat) : ∀ k : Nat, sumTo (takeN r s) k = loN r s k
  | 0 => (lo_zero r s).symm
  | k + 1 => by rw [sumTo, take_sum r s k, lo_succ]
theorem lo_le (r : Nat → Nat) (s c : Nat) : loN r s c ≤ s := Nat.min_le_left _ _
theorem sumTo_mono (r : Nat → Nat) {a b : Nat} (h : a ≤ b) : sumTo r a ≤ sumTo r b := by
  induction b with
  | zero => rw [Nat.le_zero.1 h]; exact Nat.le_refl _
  | succ b ih =>
    rcases Nat.lt_or_ge a (b + 1) with h1 | h1
    · rw [sumTo]
      have := ih (by omega)
      omega
    · rw [Nat.le_antisymm h h1]; exact Nat.le_refl _
theorem sumTo_two {g : Nat → Nat} : ∀ {k i j : Nat}, i < j → j < k → g i + g j ≤ sumTo g k
  | 0, i, j, _, h => absurd h (Nat.not_lt_zero _)
  | k + 1, i, j, hij, h => by
    rw [sumTo]
    by_cases e : j = k
    · subst e
      have h1 := sumTo_mono g (a := i + 1) (b := j) hij
      rw [sumTo] at h1
      omega
    · have := sumTo_two (g := g) hij (show j < k by omega)
      omega
/-- A core all of whose room was given. -/
theorem take_all {r : Nat → Nat} {s c : Nat} (h : sumTo r (c + 1) ≤ s) : takeN r s c = r c := by
  rw [sumTo] at h
  unfold takeN
  omega

/-! ### The current core -/
def curN (r : Nat → Nat) : Nat := ((List.range 15).find? fun c => !decide (r c = 0)).getD 15
theorem cur_some {r : Nat → Nat} : curN r ≤ 15 ∧ (∀ c, c < curN r → r c = 0) ∧ (curN r < 15 → r (curN r) ≠ 0) := by
  unfold curN
  cases h : (List.range 15).find? fun c => !decide (r c = 0) with
  | none =>
    rw [List.find?_range_eq_none] at h
    refine ⟨Nat.le_refl _, fun c hc => ?_, fun hc => absurd hc (Nat.lt_irrefl _)⟩
    have := h c hc
    simpa using this
  | some k =>
    rw [List.find?_range_eq_some] at h
    obtain ⟨h1, h2, h3⟩ := h
    refine ⟨by have := List.mem_range.1 h2; show k ≤ 15; omega, fun c hc => ?_, fun _ => ?_⟩
    · have := h3 c hc
      simpa using this
    · show r k ≠ 0
      simpa using h1
theorem cur_of {r : Nat → Nat} {c : Nat} (hc : c < 16) (h : r c ≠ 0) (h0 : ∀ i, i < c → r i = 0) : curN r = c := by
  obtain ⟨h1, h2, h3⟩ := cur_some (r := r)
  rcases Nat.lt_trichotomy (curN r) c with hlt | he | hlt
  · exact absurd (h0 _ hlt) (h3 (by omega))
  · exact he
  · exact absurd (h2 c hlt) h
theorem sumTo_cur {r : Nat → Nat} : ∀ {c : Nat}, (∀ i, i < c → r i = 0) → sumTo r c = 0 := fun h => sumTo_zero h

/-! ### The pieces -/
def pcAt (n a : Nat) (r : Nat → Nat) (s c : Nat) : Pc := ⟨(c : Int), roundN n (takeN r s c) ((a + loN r s c) % n)⟩
def pcsC (n a : Nat) (r : Nat → Nat) (s : Nat) : Nat → List Pc
  | 0 => []
  | k + 1 => pcsC n a r s k ++ (if takeN r s k = 0 then [] else [pcAt n a r s k])
theorem pcAt_bit {n a s c j : Nat} {r : Nat → Nat} (ha : a < n) (hn : n ≤ 64) (hs : s ≤ n) : (pcAt n a r s c).t.testBit j = decide (j < n ∧ loN r s c ≤ srcN n a j ∧ srcN n a j < loN r s (c + 1)) := by
  unfold pcAt
  show (roundN _ _ _).testBit j = _
  rw [round_bit _ _ _ _ hn]
  by_cases hj : j < n
  · have h1 := src_add ha (Nat.le_trans (lo_le r s c) hs) hj
    have h2 := lo_succ r s c
    have h3 := lo_le r s (c + 1)
    have h4 := src_lt ha hj
    rw [decide_eq_true hj, Bool.true_and]
    refine decide_eq_decide.2 ?_
    rw [h1]
    split <;> omega
  · rw [decide_eq_false hj, Bool.false_and, decide_eq_false fun h => hj h.1]
theorem pcs_any {n a s : Nat} {r : Nat → Nat} (ha : a < n) (hn : n ≤ 64) (hs : s ≤ n) (j : Nat) : ∀ k : Nat, nAny (pcsC n a r s k) j = (decide (j < n ∧ srcN n a j < loN r s k)).toNat
  | 0 => by
    rw [decide_eq_false (by rw [lo_zero]; omega)]
    rfl
  | k + 1 => by
    rw [pcsC, nAny_append, pcs_any ha hn hs j k]
    have h2 := lo_succ r s k
    by_cases h0 : takeN r s k = 0
    · rw [if_pos h0, show loN r s (k + 1) = loN r s k by omega]
      rfl
    · rw [if_neg h0, show nAny [pcAt n a r s k] j = ((pcAt n a r s k).t.testBit j).toNat by rw [show [pcAt n a r s k] = [] ++ [pcAt n a r s k] from rfl, nAny_snoc]; show 0 + _ = _; omega, pcAt_bit ha hn hs]
      by_cases hj : j < n
      · by_cases h3 : srcN n a j < loN r s k
        · rw [decide_eq_true ⟨hj, h3⟩, decide_eq_false (by omega), decide_eq_true ⟨hj, by omega⟩]
          rfl
        · rw [decide_eq_false (fun h => h3 h.2)]
          by_cases h4 : srcN n a j < loN r s (k + 1)
          · rw [decide_eq_true ⟨hj, by omega, h4⟩, decide_eq_true ⟨hj, h4⟩]
            rfl
          · rw [decide_eq_false (fun h => h4 h.2.2), decide_eq_false (fun h => h4 h.2)]
            rfl
      · rw [decide_eq_false (fun h => hj h.1), decide_eq_false (fun h => hj h.1), decide_eq_false (fun h => hj h.1)]
        rfl
theorem pcs_on {n a s : Nat} {r : Nat → Nat} (ha : a < n) (hn : n ≤ 64) (hs : s ≤ n) (c j : Nat) : ∀ k : Nat, nOn (pcsC n a r s k) (c : Int) j = (decide (c < k ∧ j < n ∧ loN r s c ≤ srcN n a j ∧ srcN n a j < loN r s (c + 1))).toNat
  | 0 => by
    rw [decide_eq_false (by omega)]
    rfl
  | k + 1 => by
    rw [pcsC, nOn_append, pcs_on ha hn hs c j k]
    have h2 := lo_succ r s k
    by_cases h0 : takeN r s k = 0
    · rw [if_pos h0]
      show _ + 0 = _
      rw [Nat.add_zero]
      congr 1
      refine decide_eq_decide.2 ⟨fun h => ⟨by omega, h.2⟩, fun h => ⟨?_, h.2⟩⟩
      rcases Nat.lt_or_ge c k with h3 | h3
      · exact h3
      · have : c = k := by omega
        subst this
        omega
    · rw [if_neg h0, show nOn [pcAt n a r s k] (c : Int) j = (onB (c : Int) j (pcAt n a r s k)).toNat by rw [show [pcAt n a r s k] = [] ++ [pcAt n a r s k] from rfl, nOn_snoc, nOn_nil]; omega]
      unfold onB
      rw [pcAt_bit ha hn hs]
      have hc : (pcAt n a r s k).c = (k : Int) := rfl
      rw [hc]
      by_cases e : c = k
      · subst e
        rw [decide_eq_false (by omega), decide_eq_true rfl, Bool.true_and]
        show 0 + _ = _
        rw [Nat.zero_add]
        congr 1
        exact decide_eq_decide.2 ⟨fun h => ⟨by omega, h⟩, fun h => h.2⟩
      · rw [decide_eq_false (show ¬ (k : Int) = (c : Int) by omega), Bool.false_and]
        show _ + 0 = _
        rw [Nat.add_zero]
        congr 1
        exact decide_eq_decide.2 ⟨fun h => ⟨by omega, h.2⟩, fun h => ⟨by omega, h.2⟩⟩
theorem pcs_on_out {n a s : Nat} {r : Nat → Nat} {c : Int} (h : ¬ (0 ≤ c ∧ c < 16)) (j : Nat) : ∀ k : Nat, k ≤ 16 → nOn (pcsC n a r s k) c j = 0
  | 0, _ => rfl
  | k + 1, hk => by
    rw [pcsC, nOn_append, pcs_on_out h j k (by omega)]
    split
    · rfl
    · rw [show nOn [pcAt n a r s k] c j = (onB c j (pcAt n a r s k)).toNat by rw [show [pcAt n a r s k] = [] ++ [pcAt n a r s k] from rfl, nOn_snoc, nOn_nil]; omega]
      unfold onB
      rw [decide_eq_false (show ¬ (pcAt n a r s k).c = c by show ¬ (k : Int) = c; omega)]
      rfl
/-- As many ticks as are asked for. -/
theorem pcs_count {n a s : Nat} {r : Nat → Nat} (ha : a < n) (hn : n ≤ 64) (hs : s ≤ n) {k : Nat} (hk : s ≤ sumTo r k) : sumTo (nAny (pcsC n a r s k)) 64 = s := by
  have h1 := cnt_round ha hn s hs
  rw [cnt_sum] at h1
  refine Eq.trans ?_ h1
  refine sumTo_congr fun j _ => ?_
  rw [pcs_any ha hn hs, round_bit _ _ _ _ hn, show loN r s k = s by unfold loN; omega, ← Bool.decide_and]
theorem pcs_core {n a s : Nat} {r : Nat → Nat} (ha : a < n) (hn : n ≤ 64) (hs : s ≤ n) {c k : Nat} (hc : c < k) : sumTo (nOn (pcsC n a r s k) (c : Int)) 64 = takeN r s c := by
  have h2 := lo_succ r s c
  have h3 := lo_le r s (c + 1)
  have h1 := cnt_round (f := n) (l := (a + loN r s c) % n) (Nat.mod_lt _ (by omega)) hn (takeN r s c) (by omega)
  rw [cnt_sum] at h1
  refine Eq.trans ?_ h1
  refine sumTo_congr fun j _ => ?_
  rw [pcs_on ha hn hs]
  have h4 := pcAt_bit (c := c) (j := j) (r := r) ha hn hs
  unfold pcAt at h4
  rw [h4]
  congr 1
  exact decide_eq_decide.2 ⟨fun h => h.2, fun h => ⟨hc, h⟩⟩
/-- Each piece is one of a core that gives something. -/
theorem pcs_mem {n a s : Nat} {r : Nat → Nat} {y : Pc} : ∀ {k : Nat}, y ∈ pcsC n a r s k → ∃ c, c < k ∧ takeN r s c ≠ 0 ∧ y = pcAt n a r s c
  | 0, h => by cases h
  | k + 1, h => by
    rw [pcsC, List.mem_append] at h
    rcases h with h | h
    · obtain ⟨c, h1, h2⟩ := pcs_mem h
      exact ⟨c, by omega, h2⟩
    · split at h
      · cases h
      · rw [List.mem_singleton.1 h]
        exact ⟨k, by omega, by assumption, rfl⟩
theorem pcs_last {n a s : Nat} {r : Nat → Nat} (k : Nat) : ((pcsC n a r s k).getLast?.map Pc.c).getD (-1) < (k : Int) := by
  cases h : (pcsC n a r s k).getLast? with
  | none => show (-1 : Int) < (k : Int); omega
  | some y =>
    obtain ⟨c, hc, _, rfl⟩ := pcs_mem (List.mem_of_getLast? h)
    show (c : Int) < (k : Int)
    omega
theorem pcs_rise {m n a s : Nat} {r : Nat → Nat} (ha : a < n) (hn : n ≤ 64) (hs : s ≤ n) (hm : ∀ c, c < 16 → r c ≠ 0 → m.testBit c = true) : ∀ k : Nat, k ≤ 16 → Rise m (-1) (pcsC n a r s k)
  | 0, _ => trivial
  | k + 1, hk => by
    rw [pcsC]
    split
    · rw [List.append_nil]
      exact pcs_rise ha hn hs hm k (by omega)
    · rename_i h0
      have h2 := lo_succ r s k
      have h3 := lo_le r s (k + 1)
      refine (rise_snoc _ _).2 ⟨pcs_rise ha hn hs hm k (by omega), ?_, pcs_last k, fun e => ?_⟩
      · show hasC m (k : Int) = true
        rw [hasC_nat (by omega)]
        exact hm k (by omega) (fun e => h0 (by unfold takeN; omega))
      · have h1 := cnt_round (f := n) (l := (a + loN r s k) % n) (Nat.mod_lt _ (by omega)) hn (takeN r s k) (by omega)
        have e' : roundN n (takeN r s k) ((a + loN r s k) % n) = 0 := e
        rw [e', cnt_zero] at h1
        omega
theorem pcsC_len {n a s : Nat} {r : Nat → Nat} : ∀ k : Nat, (pcsC n a r s k).length = sumTo (fun c => if takeN r s c = 0 then 0 else 1) k
  | 0 => rfl
  | k + 1 => by
    rw [pcsC, List.length_append, pcsC_len k, sumTo]
    split <;> rfl
theorem pcsC_few {n a s : Nat} {r : Nat → Nat} : ∀ k : Nat, (pcsC n a r s k).length ≤ k
  | 0 => Nat.le_refl _
  | k + 1 => by
    have := pcsC_few (n := n) (a := a) (s := s) (r := r) k
    rw [pcsC, List.length_append]
    split <;> simp <;> omega
/-- More than the current core has room for: the core at which it ends lies behind it. -/
theorem last_core {r : Nat → Nat} {s : Nat} (h1 : ¬ s ≤ r (curN r)) (h2 : s ≤ sumTo r 16) : ∃ e, curN r < e ∧ e < 16 ∧ sumTo r e < s ∧ s ≤ sumTo r (e + 1) := by
  obtain ⟨hc, hc0, hc1⟩ := cur_some (r := r)
  have key : ∀ k, k ≤ 16 → s ≤ sumTo r k → ∃ e, e < k ∧ sumTo r e < s ∧ s ≤ sumTo r (e + 1) := by
    intro k
    induction k with
    | zero => intro _ h; rw [show sumTo r 0 = 0 from rfl] at h; omega
    | succ k ih =>
      intro hk h
      by_cases h3 : s ≤ sumTo r k
      · obtain ⟨e, g1, g2, g3⟩ := ih (by omega) h3
        exact ⟨e, by omega, g2, g3⟩
      · exact ⟨k, by omega, by omega, h⟩
  obtain ⟨e, g1, g2, g3⟩ := key 16 (Nat.le_refl _) h2
  refine ⟨e, ?_, g1, g2, g3⟩
  rcases Nat.lt_or_ge (curN r) e with h | h
  · exact h
  · have := sumTo_mono r (a := e + 1) (b := curN r + 1) (by omega)
    have e2 : sumTo r (curN r + 1) = r (curN r) := by rw [sumTo, sumTo_cur hc0]; omega
    omega
theorem take_core {r : Nat → Nat} {s e : Nat} (g2 : sumTo r e < s) (g3 : s ≤ sumTo r (e + 1)) : takeN r s e = s - sumTo r e ∧ takeN r s e ≠ 0 ∧ r e ≠ 0 := by
  rw [sumTo] at g3
  unfold takeN
  omega
theorem pcs_two {n a s : Nat} {r : Nat → Nat} (h1 : ¬ s ≤ r (curN r)) (h2 : s ≤ sumTo r 16) (h3 : r (curN r) ≠ 0) : 2 ≤ (pcsC n a r s 16).length := by
  obtain ⟨e, g0, g1, g2, g3⟩ := last_core h1 h2
  obtain ⟨_, hc0, _⟩ := cur_some (r := r)
  have h4 : takeN r s (curN r) = r (curN r) := take_all (by rw [sumTo, sumTo_cur hc0]; omega)
  have h5 := (take_core g2 g3).2.1
  rw [pcsC_len]
  have := sumTo_two (g := fun c => if takeN r s c = 0 then 0 else 1) g0 g1
  rw [if_neg (by omega), if_neg h5] at this
  exact this

/-! ### All sixteen cores -/
/-- All pieces: chosen, so that nobody reckons them out. -/
noncomputable def pcsA (n a : Nat) (r : Nat → Nat) (s : Nat) : List Pc := Classical.choose (⟨pcsC n a r s 16, rfl⟩ : ∃ q, q = pcsC n a r s 16)
theorem pcsA_eq (n a : Nat) (r : Nat → Nat) (s : Nat) : pcsA n a r s = pcsC n a r s 16 := Classical.choose_spec (⟨pcsC n a r s 16, rfl⟩ : ∃ q, q = pcsC n a r s 16)
theorem pcsA_rise {m n a s : Nat} {r : Nat → Nat} (ha : a < n) (hn : n ≤ 64) (hs : s ≤ n) (hm : ∀ c, c < 16 → r c ≠ 0 → m.testBit c = true) : Rise m (-1) (pcsA n a r s) := by
  have h := pcs_rise ha hn hs hm
  rw [pcsA_eq]
  generalize hk : 16 = k at h ⊢
  exact h k (Nat.le_refl _)
theorem pcsA_any {n a s : Nat} {r : Nat → Nat} (ha : a < n) (hn : n ≤ 64) (hs : s ≤ n) (hr : s ≤ sumTo r 16) (j : Nat) : nAny (pcsA n a r s) j = (decide (j < n ∧ srcN n a j < s)).toNat := by
  have h := pcs_any (r := r) ha hn hs j
  rw [pcsA_eq]
  generalize hk : 16 = k at hr ⊢
  rw [h k, show loN r s k = s by unfold loN; omega]
theorem pcsA_on {n a s : Nat} {r : Nat → Nat} (ha : a < n) (hn : n ≤ 64) (hs : s ≤ n) {c : Nat} (hc : c < 16) (j : Nat) : nOn (pcsA n a r s) (c : Int) j = (decide (j < n ∧ loN r s c ≤ srcN n a j ∧ srcN n a j < loN r s (c + 1))).toNat := by
  have h := pcs_on (r := r) ha hn hs c j
  rw [pcsA_eq]
  generalize hk : 16 = k at hc ⊢
  rw [h k]
  congr 1
  exact decide_eq_decide.2 ⟨fun h => h.2, fun h => ⟨hc, h⟩⟩
theorem pcsA_count {n a s : Nat} {r : Nat → Nat} (ha : a < n) (hn : n ≤ 64) (hs : s ≤ n) (hr : s ≤ sumTo r 16) : sumTo (nAny (pcsA n a r s)) 64 = s := by
  rw [pcsA_eq]
  generalize hk : 16 = k at hr ⊢
  exact pcs_count ha hn hs hr
theorem pcsA_core {n a s : Nat} {r : Nat → Nat} (ha : a < n) (hn : n ≤ 64) (hs : s ≤ n) {c : Nat} (hc : c < 16) : sumTo (nOn (pcsA n a r s) (c : Int)) 64 = takeN r s c := by
  rw [pcsA_eq]
  generalize hk : 16 = k at hc ⊢
  exact pcs_core ha hn hs hc
theorem pcsA_mem {n a s : Nat} {r : Nat → Nat} {y : Pc} (h : y ∈ pcsA n a r s) : ∃ c, c < 16 ∧ takeN r s c ≠ 0 ∧ y = pcAt n a r s c := by
  rw [pcsA_eq] at h
  generalize hk : 16 = k at h ⊢
  exact pcs_mem h
theorem pcsA_few {n a s : Nat} {r : Nat → Nat} : (pcsA n a r s).length ≤ 16 := by
  rw [pcsA_eq]
  generalize hk : 16 = k
  exact pcsC_few k
theorem pcsA_two {n a s : Nat} {r : Nat → Nat} (h1 : ¬ s ≤ r (curN r)) (h2 : s ≤ sumTo r 16) (h3 : r (curN r) ≠ 0) : 2 ≤ (pcsA n a r s).length := by
  rw [pcsA_eq]
  exact pcs_two h1 h2 h3
end Go.Proofs.Ytkgkanmccaodfaa
