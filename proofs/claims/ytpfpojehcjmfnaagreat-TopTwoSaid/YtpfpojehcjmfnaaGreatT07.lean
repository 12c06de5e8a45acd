/-
  A set that is turned; ticks from one on, round: what the program answers.
  Conditions: the numbers are of their kinds.
-/
import Derived.Test.YtpfpojehcjmfnaaGreatT03
import Derived.Test.YtpfpojehcjmfnaaGreatT02
import Derived.Test.YtpfpojehcjmfnaaGreatT06
import Derived.Test.YtpfpojehcjmfnaaGreatT04

/-
  The document's apart: at no tick of a core are there two.
  Conditions: the slice reads as places; the numbers are of their kinds.
-/
set_option linter.unusedVariables false
namespace Go.Proofs.YtpfpojehcjmfnaaGreat
open Go.RowKit Go.Sort

end Go.Proofs.YtpfpojehcjmfnaaGreat

/-
  Units: Unit, Kind, the document's Is and Group; a sum, or that it runs over.
  Conditions: the arguments are ints.
-/
set_option linter.unusedVariables false
namespace Go.Proofs.YtpfpojehcjmfnaaGreat
open Go.RowKit

theorem isTask_any (u : Int) (W : World) : Calls Tryz.prog 136 #[.int .i64 u] W (Ret (.bool (isTaskB u)) W) := by
  unfold isTaskB
  by_cases h1 : 1 ≤ u
  · have g1 : decide (1 ≤ u) = true := decide_eq_true h1
    rw [g1, Bool.true_and]
    go_enter Tryz.func136, Tryz.ntmps136
    go_wp2
    go_ret
    exact ⟨by simp_all, rfl⟩
  · have g1 : decide (1 ≤ u) = false := decide_eq_false h1
    rw [g1, Bool.false_and]
    go_enter Tryz.func136, Tryz.ntmps136
    go_wp2
    go_ret
    exact ⟨by simp_all, rfl⟩
theorem isGroup_any (u : Int) (W : World) : Calls Tryz.prog 137 #[.int .i64 u] W (Ret (.bool (isGroupB u)) W) := by
  unfold isGroupB
  by_cases h1 : 1 ≤ u
  · have g1 : decide (1 ≤ u) = true := decide_eq_true h1
    rw [g1, Bool.true_and]
    go_enter Tryz.func137, Tryz.ntmps137
    go_wp2
    go_ret
    exact ⟨by simp_all, rfl⟩
  · have g1 : decide (1 ≤ u) = false := decide_eq_false h1
    rw [g1, Bool.false_and]
    go_enter Tryz.func137, Tryz.ntmps137
    go_wp2
    go_ret
    exact ⟨by simp_all, rfl⟩

/-- What Kind answers. -/
def kindI (u : Int) : Int := if isTaskB u then u else if isU u then u - 1000 else 0
def kindG (u : Int) : Bool := !isTaskB u && isU u
theorem isU_task {u : Int} (h : isTaskB u = true) : isU u = true := by unfold isTaskB at h; unfold isU; rw [h]; rfl
theorem group_wrap {u : Int} (h1 : -9223372036854775808 ≤ u) (h2 : u ≤ 9223372036854775807) (ht : isTaskB u = false) : isGroupB (wrap64 (u - 1000)) = isU u := by
  unfold isTaskB at ht
  unfold isGroupB isU
  rw [ht, Bool.false_or]
  unfold wrap64
  rw [Bool.eq_iff_iff]
  simp
  omega
theorem kind_any (u : Int) (h1 : -9223372036854775808 ≤ u) (h2 : u ≤ 9223372036854775807) (W : World) :
    Calls Tryz.prog 84 #[.int .i64 u] W (Ret (.tuple #[.int .i64 (kindI u), .bool (kindG u), .bool (isU u)]) W) := by
  have HG := Lib.hid (fun x W => isGroup_any x W)
  have HT := Lib.hid (fun W => isTask_any u W)
  unfold kindI kindG
  cases ht : isTaskB u
  · rw [ht] at HT
    have hg := group_wrap h1 h2 ht
    simp only [Bool.false_eq_true, if_false, Bool.not_false, Bool.true_and]
    cases hu : isU u
    · rw [hu] at hg
      have HGN := Lib.hid (fun W => by have := HG.out (wrap64 (u - 1000)) W; rw [hg] at this; exact this)
      simp only [Bool.false_eq_true, if_false]
      clear h1 h2 ht hg hu HG
      go_enter Tryz.func84, Tryz.ntmps84
      go_wp2_with (first
        | (go_at_call 136; refine (HT.out _).mono ?_; rintro e w' ⟨rfl, rfl⟩)
        | (go_at_call 137; refine (HGN.out _).mono ?_; rintro e w' ⟨rfl, rfl⟩))
      go_returns
      exact ⟨rfl, rfl⟩
    · rw [hu] at hg
      have HGN := Lib.hid (fun W => by have := HG.out (wrap64 (u - 1000)) W; rw [hg] at this; exact this)
      have hw : wrap64 (u - 1000) = u - 1000 := by
        unfold isTaskB at ht
        unfold isU at hu
        rw [ht] at hu
        simp at hu
        unfold wrap64
        omega
      simp only [if_true]
      rw [hw] at HGN
      clear h1 h2 ht hg hu HG
      go_enter Tryz.func84, Tryz.ntmps84
      go_wp2_with (first
        | (go_at_call 136; refine (HT.out _).mono ?_; rintro e w' ⟨rfl, rfl⟩)
        | (go_at_call 137; refine (HGN.out _).mono ?_; rintro e w' ⟨rfl, rfl⟩))
      go_returns
      exact ⟨rfl, rfl⟩
  · rw [ht] at HT
    rw [isU_task ht]
    simp only [if_true, Bool.not_true, Bool.false_and]
    clear h1 h2 ht HG
    go_enter Tryz.func84, Tryz.ntmps84
    go_wp2_with (go_at_call 136; refine (HT.out _).mono ?_; rintro e w' ⟨rfl, rfl⟩)
    go_returns
    exact ⟨rfl, rfl⟩

end Go.Proofs.YtpfpojehcjmfnaaGreat

/-
  The document's place: what a place may be by itself.
  Conditions: the slice reads as pieces; the numbers are of their kinds.
-/
set_option linter.unusedVariables false
set_option linter.unusedSimpArgs false
namespace Go.Proofs.YtpfpojehcjmfnaaGreat
open Go.RowKit Go.Sort

theorem last_at {q : List Pc} {k : Nat} {z : Pc} (hz : q[k]? = some z) : ((q.take (k + 1)).getLast?.map Pc.c).getD (-1) = z.c := by
  rw [List.take_add_one, hz, Option.toList_some, List.getLast?_append]
  rfl
theorem rise_next {m : Nat} {q : List Pc} {k : Nat} {y : Pc} (hy : q[k]? = some y) : Rise m (-1) (q.take (k + 1)) ↔ Rise m (-1) (q.take k) ∧ hasC m y.c = true ∧ ((q.take k).getLast?.map Pc.c).getD (-1) < y.c ∧ y.t ≠ 0 := by
  rw [List.take_add_one, hy, Option.toList_some, rise_snoc]
theorem rise_take {m : Nat} {q : List Pc} (h : Rise m (-1) q) (k : Nat) : Rise m (-1) (q.take k) := by
  rw [← List.take_append_drop k q] at h
  exact rise_prefix _ _ _ h

end Go.Proofs.YtpfpojehcjmfnaaGreat

/-
  The document's Right: which plans are right.
  Conditions: the slice reads as places; the numbers are of their kinds.
-/
set_option linter.unusedVariables false
set_option linter.unusedSimpArgs false
namespace Go.Proofs.YtpfpojehcjmfnaaGreat
open Go.RowKit Go.Sort

theorem shares_of {f : Int} {m : Nat} {l : List Pl} (h : ∀ x ∈ l, PlaceOk f m x) (hf : f ≤ 64) : Shares l := fun x hx => by
  have h1 := (h x hx).s1
  have h2 := (h x hx).s2
  omega
theorem ticks16 {m k : Nat} {x : Int} (h : (ticksI m 16)[k]? = some x) : ∃ C : Nat, x = (C : Int) ∧ C < 16 ∧ m.testBit C = true ∧ cntT m C = k := by
  unfold ticksI at h
  rw [List.getElem?_map] at h
  obtain ⟨j, hj, rfl⟩ := Option.map_eq_some_iff.1 h
  obtain ⟨h1, h2, h3⟩ := (tickT_iff m 16 k j).1 hj
  exact ⟨j, rfl, h1, h2, h3⟩

end Go.Proofs.YtpfpojehcjmfnaaGreat

/-
  Which plans the program finds right: the same as the document.
  Conditions: none.
-/
set_option linter.unusedVariables false
namespace Go.Proofs.YtpfpojehcjmfnaaGreat

theorem chkE_zero {f : Int} {b : List Sp} {y : Sp} : chkE f b y = 0 ↔ isU y.1 = true ∧ 1 ≤ y.2 ∧ y.2 ≤ f ∧ (b.any fun s => decide (s.1 = y.1)) = false := by
  unfold chkE
  cases hu : isU y.1 with
  | false => simp
  | true =>
    rw [if_neg (by simp)]
    by_cases h : y.2 < 1 ∨ f < y.2
    · rw [if_pos h]
      constructor
      · intro h'; exact absurd h' (by decide)
      · rintro ⟨_, h1, h2, _⟩; omega
    · rw [if_neg h]
      cases hb : (b.any fun s => decide (s.1 = y.1)) with
      | true => simp
      | false =>
        rw [if_neg (by simp)]
        exact ⟨fun _ => ⟨rfl, by omega, by omega, rfl⟩, fun _ => rfl⟩
theorem chkL_zero {f : Int} : ∀ (r b : List Sp), chkL f b r = 0 ↔ ∀ (i : Nat) (y : Sp), r[i]? = some y → chkE f (b ++ r.take i) y = 0
  | [], b => by simp [chkL]
  | y :: r, b => by
    unfold chkL
    constructor
    · intro h
      by_cases he : chkE f b y = 0
      · have h := (chkL_zero r (b ++ [y])).1 (by simpa [he] using h)
        intro i z hi
        cases i with
        | zero =>
          have : y = z := by simpa using hi
          subst this
          simpa using he
        | succ i =>
          have := h i z (by simpa using hi)
          simpa [List.append_assoc] using this
      · exact absurd h (by simp [he])
    · intro h
      have he : chkE f b y = 0 := by have := h 0 y rfl; simpa using this
      have h2 := (chkL_zero r (b ++ [y])).2 fun i z hi => by
        have := h (i + 1) z (by simpa using hi)
        simpa [List.append_assoc] using this
      simp [he, h2]

/-- What the program asks of units. -/
def Rises (l : List Pl) : Prop := ∀ (i : Nat) (x y : Pl), l[i]? = some x → l[i + 1]? = some y → x.u ≤ y.u
structure UnitsOk (f : Int) (l : List Pl) : Prop where
  chk : chkT f (wantsT l) = 0
  rises : Rises l
theorem Rises.far {l : List Pl} (h : Rises l) : ∀ (d i : Nat) (x y : Pl), l[i]? = some x → l[i + d]? = some y → x.u ≤ y.u
  | 0, i, x, y, hx, hy => by
    rw [Nat.add_zero, hx] at hy
    cases hy
    exact Int.le_refl _
  | d + 1, i, x, y, hx, hy => by
    have hlt : i + (d + 1) < l.length := (List.getElem?_eq_some_iff.1 hy).1
    have hz : l[i + d]? = some l[i + d] := List.getElem?_eq_getElem (by omega)
    have h1 := Rises.far h d i x _ hx hz
    have h2 := h (i + d) _ y hz (by rw [← hy]; congr 1)
    omega
theorem wants_get {l : List Pl} {i : Nat} {y : Sp} : (wantsT l)[i]? = some y ↔ ∃ x, l[i]? = some x ∧ y = (x.u, x.s) := by
  unfold wantsT
  rw [List.getElem?_map, Option.map_eq_some_iff]
  exact ⟨fun ⟨x, h1, h2⟩ => ⟨x, h1, h2.symm⟩, fun ⟨x, h1, h2⟩ => ⟨x, h1, h2.symm⟩⟩
theorem units_iff {f : Int} {l : List Pl} : UnitsOk f l ↔ (2 ≤ f ∧ f ≤ 64) ∧ (∀ x ∈ l, isU x.u = true ∧ 1 ≤ x.s ∧ x.s ≤ f) ∧ ∀ (i : Nat) (x y : Pl), l[i]? = some x → l[i + 1]? = some y → x.u < y.u := by
  constructor
  · rintro ⟨hc, hr⟩
    unfold chkT at hc
    by_cases hf : f < 2 ∨ 64 < f
    · rw [if_pos hf] at hc; exact absurd hc (by decide)
    · rw [if_neg hf] at hc
      have h := (chkL_zero (wantsT l) []).1 hc
      have key : ∀ (i : Nat) (x : Pl), l[i]? = some x → isU x.u = true ∧ 1 ≤ x.s ∧ x.s ≤ f ∧ (((wantsT l).take i).any fun s => decide (s.1 = x.u)) = false := fun i x hx => by
        have := chkE_zero.1 (h i (x.u, x.s) (wants_get.2 ⟨x, hx, rfl⟩))
        simpa using this
      refine ⟨by omega, fun x hx => ?_, fun i x y hx hy => ?_⟩
      · obtain ⟨i, hi, e⟩ := List.getElem_of_mem hx
        obtain ⟨h1, h2, h3, _⟩ := key i x (by rw [List.getElem?_eq_getElem hi, e])
        exact ⟨h1, h2, h3⟩
      · have h1 := hr i x y hx hy
        obtain ⟨_, _, _, h2⟩ := key (i + 1) y hy
        have h3 : x.u ≠ y.u := fun e => by
          have hm : (((wantsT l).take (i + 1)).any fun s => decide (s.1 = y.u)) = true := by
            rw [List.any_eq_true]
            refine ⟨(x.u, x.s), ?_, by simpa using e⟩
            rw [List.mem_iff_getElem?]
            exact ⟨i, by rw [List.getElem?_take, if_pos (by omega)]; exact wants_get.2 ⟨x, hx, rfl⟩⟩
          rw [h2] at hm
          cases hm
        omega
  · rintro ⟨hf, hp, ha⟩
    have hr : Rises l := fun i x y hx hy => by have := ha i x y hx hy; omega
    have hs : ∀ (d i : Nat) (x y : Pl), l[i]? = some x → l[i + d + 1]? = some y → x.u < y.u := fun d i x y hx hy => by
      have hlt : i + d + 1 < l.length := (List.getElem?_eq_some_iff.1 hy).1
      have hz : l[i + d]? = some l[i + d] := List.getElem?_eq_getElem (by omega)
      have h1 := hr.far d i x _ hx hz
      have h2 := ha (i + d) _ y hz hy
      omega
    refine ⟨?_, hr⟩
    unfold chkT
    rw [if_neg (by omega), chkL_zero]
    intro i y hy
    obtain ⟨x, hx, rfl⟩ := wants_get.1 hy
    obtain ⟨h1, h2, h3⟩ := hp x (List.mem_of_getElem? hx)
    rw [chkE_zero]
    refine ⟨h1, h2, h3, ?_⟩
    rw [List.any_eq_false]
    intro s hs'
    rw [List.nil_append] at hs'
    obtain ⟨j, hj⟩ := List.mem_iff_getElem?.1 hs'
    rw [List.getElem?_take] at hj
    split at hj
    · obtain ⟨z, hz, rfl⟩ := wants_get.1 hj
      rename_i hji
      obtain ⟨d, hd⟩ : ∃ d, i = j + d + 1 := ⟨i - j - 1, by omega⟩
      subst hd
      have := hs d j z x hz hx
      simpa using (show z.u ≠ x.u by omega)
    · cases hj

/-- What the program asks of each place. -/
structure WS (f : Int) (m : Nat) (x : Pl) : Prop where
  whole : x.ps = [] → hasC m x.c = true
  split : x.ps ≠ [] → SplitOk f m x
/-- What it asks of all together. -/
structure FitsOk (f : Int) (m : Nat) (l : List Pl) : Prop where
  apart : ApartP m (pcsOf l)
  room : ∀ i : Nat, i < 16 → 0 ≤ roomN f m l (i : Int)
  few : splitsN l < cnt m
theorem pcs_has {f : Int} {m : Nat} {l : List Pl} (h : ∀ x ∈ l, PlaceOk f m x) : ∀ y ∈ pcsOf l, hasC m y.c = true := fun y hy => by
  obtain ⟨x, hx, hy⟩ := mem_pcsOf.1 hy
  exact (h x hx).has y hy
theorem nOn_lack {m : Nat} {q : List Pc} (h : ∀ y ∈ q, hasC m y.c = true) {c : Nat} (hc : c < 16) (hb : m.testBit c = false) (t : Nat) : nOn q (c : Int) t = 0 := by
  rcases Nat.eq_zero_or_pos (nOn q (c : Int) t) with h0 | h0
  · exact h0
  · obtain ⟨y, hy, e, _⟩ := nOn_pos.1 h0
    have := h y hy
    rw [e, hasC_nat hc, hb] at this
    cases this
theorem check_iff {f : Int} {m : Nat} {l : List Pl} : (m ≠ 0 ∧ m < 65536) ∧ UnitsOk f l ∧ (∀ x ∈ l, WS f m x) ∧ FitsOk f m l ↔ Right f m l := by
  constructor
  · rintro ⟨⟨h1, h2⟩, hu, hw, hf⟩
    obtain ⟨hff, hp, ha⟩ := units_iff.1 hu
    have hpl : ∀ x ∈ l, PlaceOk f m x := fun x hx => ⟨(hp x hx).1, (hp x hx).2.1, (hp x hx).2.2, (hw x hx).whole, (hw x hx).split⟩
    refine ⟨hff.1, hff.2, h1, h2, hpl, ha, fun c hc t ht => ?_, by rw [← cores_cnt h2]; exact hf.few, fun c hc hb => ?_⟩
    · cases hb : m.testBit c with
      | true => exact hf.apart c hc hb t ht
      | false => rw [nOn_lack (pcs_has hpl) hc hb]; exact Nat.zero_le _
    · have := hf.room c hc
      unfold roomN at this
      rw [hasC_nat hc, hb, if_pos rfl] at this
      omega
  · intro h
    refine ⟨⟨h.m0, h.m16⟩, units_iff.2 ⟨⟨h.f2, h.f64⟩, fun x hx => ⟨(h.place x hx).unit, (h.place x hx).s1, (h.place x hx).s2⟩, h.asc⟩, fun x hx => ⟨(h.place x hx).whole, (h.place x hx).split⟩, fun i hi _ t ht => h.apart i hi t ht, fun i hi => ?_, by rw [cores_cnt h.m16]; exact h.few⟩
    unfold roomN
    rw [hasC_nat hi]
    cases hb : m.testBit i with
    | true => rw [if_pos rfl]; have := h.load i hi hb; omega
    | false => rw [if_neg (by simp)]; exact Int.le_refl _
end Go.Proofs.YtpfpojehcjmfnaaGreat

/-
  Wants that are right are few: no more than there are units.
  Conditions: none.
-/
set_option linter.unusedVariables false
namespace Go.Proofs.YtpfpojehcjmfnaaGreat

theorem nodup_lt : ∀ (n : Nat) (l : List Nat), l.Nodup → (∀ x ∈ l, x < n) → l.length ≤ n
  | 0, l, _, h => by
    cases l with
    | nil => exact Nat.le_refl _
    | cons x r => exact absurd (h x (by simp)) (Nat.not_lt_zero _)
  | n + 1, l, hd, h => by
    have h1 := nodup_lt n (l.erase n) (hd.erase n) (fun x hx => by
      have hm := (hd.mem_erase_iff).1 hx
      have := h x hm.2
      have := hm.1
      omega)
    rw [List.length_erase] at h1
    split at h1 <;> omega
/-- A unit's place among all. -/
def idxU (u : Int) : Nat := if u ≤ 200 then (u - 1).toNat else (u - 801).toNat
theorem idxU_lt {u : Int} (h : isU u = true) : idxU u < 240 := by
  simp [isU] at h
  unfold idxU
  split <;> omega
theorem idxU_inj {u v : Int} (hu : isU u = true) (hv : isU v = true) (h : idxU u = idxU v) : u = v := by
  simp [isU] at hu hv
  unfold idxU at h
  split at h <;> split at h <;> omega
theorem few_wants {f : Int} {l : List Sp} (h : chkT f l = 0) : l.length ≤ 240 := by
  unfold chkT at h
  by_cases hf : f < 2 ∨ 64 < f
  · rw [if_pos hf] at h; exact absurd h (by decide)
  · rw [if_neg hf] at h
    have hz := (chkL_zero l []).1 h
    have hall : ∀ (i : Nat) (y : Sp), l[i]? = some y → isU y.1 = true ∧ ∀ s ∈ l.take i, s.1 ≠ y.1 := fun i y hy => by
      obtain ⟨h1, _, _, h4⟩ := chkE_zero.1 (hz i y hy)
      refine ⟨h1, fun s hs he => ?_⟩
      rw [List.nil_append, List.any_eq_false] at h4
      exact h4 s hs (decide_eq_true he)
    have h1 : (l.map fun y => idxU y.1).length ≤ 240 := by
      refine nodup_lt 240 _ ?_ ?_
      · rw [List.Nodup, List.pairwise_iff_getElem]
        intro i j hi hj hij he
        rw [List.length_map] at hi hj
        rw [List.getElem_map, List.getElem_map] at he
        have hyi := List.getElem?_eq_getElem hi
        have hyj := List.getElem?_eq_getElem hj
        obtain ⟨u1, _⟩ := hall i _ hyi
        obtain ⟨u2, n2⟩ := hall j _ hyj
        refine n2 l[i] ?_ (idxU_inj u1 u2 he)
        rw [List.mem_take_iff_getElem]
        exact ⟨i, by omega, rfl⟩
      · intro x hx
        obtain ⟨y, hy, rfl⟩ := List.mem_map.1 hx
        obtain ⟨i, hi⟩ := List.getElem?_of_mem hy
        exact idxU_lt (hall i y hi).1
    rwa [List.length_map] at h1
/-- Numbers of their kinds, pieces that are few: a plan as tables make it. -/
structure WideL (l : List Pl) : Prop where
  len : l.length ≤ 1200000
  ok : ∀ x ∈ l, PlOk x ∧ x.ps.length ≤ 1000
theorem LightL.wide {l : List Pl} (h : LightL l) : WideL l := ⟨by have := h.len; omega, h.ok⟩
theorem WideL.light {l : List Pl} (h : WideL l) {f : Int} (hc : chkT f (wantsT l) = 0) : LightL l :=
  ⟨by have := few_wants hc; rw [wantsT_length] at this; omega, h.ok⟩
end Go.Proofs.YtpfpojehcjmfnaaGreat

/-
  First fit by falling sizes over lists of places: the first core with room, one unit more in a right plan, all of them one behind the other, and when it is sure that nobody is left over.
  Conditions: none.
-/
set_option linter.unusedVariables false
namespace Go.Proofs.YtpfpojehcjmfnaaGreat

def roomB (f : Int) (m : Nat) (l : List Pl) (s : Int) (c : Nat) : Bool := m.testBit c && decide (s ≤ roomN f m l (c : Int))
def firstR (f : Int) (m : Nat) (l : List Pl) (s : Int) : Option Nat := (List.range 16).find? (roomB f m l s)
theorem firstR_none {f : Int} {m : Nat} {l : List Pl} {s : Int} : firstR f m l s = none ↔ ∀ j, j < 16 → roomB f m l s j = false := by
  unfold firstR
  rw [List.find?_range_eq_none]
  simp
theorem firstR_some {f : Int} {m : Nat} {l : List Pl} {s : Int} {c : Nat} : firstR f m l s = some c ↔ c < 16 ∧ roomB f m l s c = true ∧ ∀ j, j < c → roomB f m l s j = false := by
  unfold firstR
  rw [List.find?_range_eq_some]
  simp only [List.mem_range, Bool.not_eq_true']
  exact ⟨fun h => ⟨h.2.1, h.1, h.2.2⟩, fun h => ⟨h.2.1, h.1, h.2.2⟩⟩
theorem roomB_iff {f : Int} {m : Nat} {l : List Pl} {s : Int} {c : Nat} : roomB f m l s c = true ↔ m.testBit c = true ∧ s ≤ roomN f m l (c : Int) := by
  unfold roomB
  rw [Bool.and_eq_true, decide_eq_true_iff]
theorem roomB_no {f : Int} {m : Nat} {l : List Pl} {s : Int} {c : Nat} : roomB f m l s c = false ↔ (m.testBit c = true → roomN f m l (c : Int) < s) := by
  rw [← Bool.not_eq_true, roomB_iff]
  constructor
  · intro h hb
    have : ¬ s ≤ roomN f m l (c : Int) := fun e => h ⟨hb, e⟩
    omega
  · intro h hb
    have := h hb.1
    omega

def Asc (l : List Pl) : Prop := l.Pairwise fun x y => x.u < y.u
theorem Right.pairs {f : Int} {m : Nat} {l : List Pl} (h : Right f m l) : Asc l := by
  unfold Asc
  rw [List.pairwise_iff_getElem]
  intro i j hi hj hij
  exact h.rise hij (List.getElem?_eq_getElem hi) (List.getElem?_eq_getElem hj)
theorem Asc.next {l : List Pl} (h : Asc l) {i : Nat} {x y : Pl} (hx : l[i]? = some x) (hy : l[i + 1]? = some y) : x.u < y.u := by
  obtain ⟨h1, rfl⟩ := List.getElem?_eq_some_iff.1 hx
  obtain ⟨h2, rfl⟩ := List.getElem?_eq_some_iff.1 hy
  exact List.pairwise_iff_getElem.1 h i (i + 1) h1 h2 (Nat.lt_succ_self i)
def posU (d : List Pl) (u : Int) : Nat := d.countP fun y => decide (y.u < u)
theorem posU_at (u : Int) : ∀ (d : List Pl), Asc d → PutAt d u (posU d u)
  | [], _ => ⟨Nat.le_refl _, fun j y h => by simp at h⟩
  | x :: d, h => by
    obtain ⟨h1, h2⟩ := List.pairwise_cons.1 h
    have ih := posU_at u d h2
    refine ⟨List.countP_le_length, fun j y hy => ?_⟩
    unfold posU
    rw [List.countP_cons]
    by_cases hx : x.u < u
    · rw [if_pos (decide_eq_true hx)]
      rcases j with _ | j
      · rw [List.getElem?_cons_zero] at hy
        rw [← Option.some.inj hy]
        omega
      · rw [List.getElem?_cons_succ] at hy
        have := ih.less j y hy
        unfold posU at this
        omega
    · rw [if_neg (by simpa using hx)]
      have h0 : (d.countP fun y => decide (y.u < u)) = 0 := by
        rw [List.countP_eq_zero]
        intro z hz
        have := h1 z hz
        simp
        omega
      rw [h0]
      rcases j with _ | j
      · rw [List.getElem?_cons_zero] at hy
        rw [← Option.some.inj hy]
        omega
      · rw [List.getElem?_cons_succ] at hy
        have := h1 y (List.mem_of_getElem? hy)
        omega
theorem drop_absent {l : List Pl} {u : Int} (h : ∀ x ∈ l, x.u ≠ u) : dropT l u = l := List.filter_eq_self.2 fun x hx => by simp [h x hx]
theorem dropT_asc {l : List Pl} (h : Asc l) (u : Int) : Asc (dropT l u) := h.filter _
/-- A plan's places with one more. -/
def addU (l : List Pl) (x : Pl) : List Pl := putPl (dropT l x.u) x (posU (dropT l x.u) x.u)
theorem addU_eq {l : List Pl} {x : Pl} (h : ∀ y ∈ l, y.u ≠ x.u) : addU l x = putPl l x (posU l x.u) := by
  unfold addU
  rw [drop_absent h]
theorem putPl_length {d : List Pl} {x : Pl} {k : Nat} : (putPl d x k).length = d.length + 1 := by
  unfold putPl
  rw [List.length_append, List.length_append, List.length_take, List.length_drop, List.length_singleton]
  omega
theorem putPl_mem {d : List Pl} {x y : Pl} {k : Nat} : y ∈ putPl d x k ↔ y = x ∨ y ∈ d := by
  unfold putPl
  rw [List.mem_append, List.mem_append, List.mem_singleton]
  conv => rhs; rw [← List.take_append_drop k d, List.mem_append]
  constructor
  · rintro ((h | h) | h)
    · exact .inr (.inl h)
    · exact .inl h
    · exact .inr (.inr h)
  · rintro (h | h | h)
    · exact .inl (.inr h)
    · exact .inl (.inl h)
    · exact .inr h
/-- What is counted over all places, with one more. -/
theorem put_sum (F : List Pl → Int) (hF : ∀ a b, F (a ++ b) = F a + F b) (d : List Pl) (x : Pl) (k : Nat) : F (putPl d x k) = F d + F [x] := by
  unfold putPl
  rw [hF, hF]
  conv => rhs; rw [← List.take_append_drop k d, hF]
  omega
theorem put_pcs {d : List Pl} {x : Pl} (hx : x.ps = []) (k : Nat) : pcsOf (putPl d x k) = pcsOf d := by
  unfold putPl
  have e : ∀ a b : List Pl, pcsOf (a ++ b) = pcsOf a ++ pcsOf b := fun a b => by simp [pcsOf]
  rw [e, e]
  conv => rhs; rw [← List.take_append_drop k d, e]
  rw [show pcsOf [x] = [] by simp [pcsOf, hx], List.append_nil]
theorem wholes_append (a b : List Pl) (c : Int) : wholesT (a ++ b) c = wholesT a c ++ wholesT b c := by unfold wholesT; rw [List.filter_append, List.map_append]
theorem put_load {d : List Pl} {x : Pl} (hx : x.ps = []) (k : Nat) (c : Int) : loadN (putPl d x k) c = loadN d c + (if x.c = c then x.s else 0) := by
  unfold loadN
  rw [put_pcs hx, put_sum (fun l => sumS (wholesT l c)) (fun a b => by simp only [wholes_append, sumS_append])]
  have e : sumS (wholesT [x] c) = if x.c = c then x.s else 0 := by
    rw [wholesT_cons]
    unfold wholeB
    rw [hx]
    by_cases h : x.c = c
    · simp [h, wholesT, sumS]
    · simp [h, wholesT, sumS]
  omega
theorem put_room {f : Int} {m : Nat} {d : List Pl} {x : Pl} (hx : x.ps = []) (k : Nat) (c : Nat) : roomN f m (putPl d x k) (c : Int) = if hasC m (c : Int) = true then f - loadN d (c : Int) - (if x.c = (c : Int) then x.s else 0) else 0 := by
  unfold roomN
  rw [put_load hx]
  split
  · omega
  · rfl
theorem put_asc {d : List Pl} {x : Pl} (h : Asc d) (hn : ∀ y ∈ d, y.u ≠ x.u) : Asc (putPl d x (posU d x.u)) := by
  have hp := posU_at x.u d h
  unfold putPl Asc
  rw [List.pairwise_append, List.pairwise_append]
  have ht : ∀ y ∈ d.take (posU d x.u), y.u < x.u := fun y hy => by
    obtain ⟨j, hj⟩ := List.mem_iff_getElem?.1 hy
    rw [List.getElem?_take] at hj
    split at hj
    · exact (hp.less j y hj).2 (by assumption)
    · cases hj
  have hd : ∀ y ∈ d.drop (posU d x.u), x.u < y.u := fun y hy => by
    obtain ⟨j, hj⟩ := List.mem_iff_getElem?.1 hy
    rw [List.getElem?_drop] at hj
    have h1 := hp.less _ y hj
    have h2 := hn y (List.mem_of_getElem? hj)
    omega
  have hs : (d.take (posU d x.u) ++ d.drop (posU d x.u)).Pairwise fun x y => x.u < y.u := by rw [List.take_append_drop]; exact h
  obtain ⟨s1, s2, s3⟩ := List.pairwise_append.1 hs
  refine ⟨⟨s1, List.pairwise_singleton _ _, fun a ha b hb => ?_⟩, s2, fun a ha b hb => ?_⟩
  · rw [List.mem_singleton.1 hb]
    exact ht a ha
  · rcases List.mem_append.1 ha with ha | ha
    · exact s3 a ha b hb
    · rw [List.mem_singleton.1 ha]
      exact hd b hb
/-- A unit that is placed whole where there is room. -/
theorem Right.put {f : Int} {m : Nat} {l : List Pl} (h : Right f m l) {u s : Int} {c : Nat} (hn : ∀ y ∈ l, y.u ≠ u) (hu : isU u = true) (h1 : 1 ≤ s) (h2 : s ≤ f) (hc : c < 16) (hr : roomB f m l s c = true) : Right f m (addU l ⟨u, s, (c : Int), []⟩) := by
  have hn' : ∀ y ∈ l, y.u ≠ (⟨u, s, (c : Int), []⟩ : Pl).u := hn
  obtain ⟨hb, hs⟩ := roomB_iff.1 hr
  rw [addU_eq hn']
  have ha := put_asc h.pairs hn'
  refine ⟨h.f2, h.f64, h.m0, h.m16, fun y hy => ?_, fun i x y hx hy => ha.next hx hy, ?_, ?_, fun c' hc' hb' => ?_⟩
  · rcases putPl_mem.1 hy with rfl | hy
    · exact ⟨hu, h1, h2, fun _ => by show hasC m (c : Int) = true; rw [hasC_nat hc]; exact hb, fun e => absurd rfl e⟩
    · exact h.place y hy
  · rw [put_pcs rfl]
    exact h.apart
  · have e : (splitsN (putPl l ⟨u, s, (c : Int), []⟩ (posU l u)) : Int) = (splitsN l : Int) + (splitsN [⟨u, s, (c : Int), []⟩] : Int) := put_sum (fun l => (splitsN l : Int)) (fun a b => by show ((splitsN (a ++ b) : Nat) : Int) = _; unfold splitsN; rw [List.countP_append]; omega) _ _ _
    have e2 : splitsN [⟨u, s, (c : Int), []⟩] = 0 := rfl
    have := h.few
    show splitsN (putPl l ⟨u, s, (c : Int), []⟩ (posU l u)) < coresN m
    omega
  · rw [put_load rfl]
    have h3 := h.load c' hc' hb'
    by_cases e : (c : Int) = (c' : Int)
    · have : c = c' := by omega
      subst this
      unfold roomN at hs
      rw [hasC_nat hc', hb', if_pos rfl] at hs
      rw [if_pos rfl]
      show _ + s ≤ f
      omega
    · rw [if_neg e]
      omega
theorem put_roomB {f : Int} {m : Nat} {l : List Pl} {u s t : Int} {c c' : Nat} (hn : ∀ y ∈ l, y.u ≠ u) (h1 : 0 ≤ s) (h : roomB f m l t c' = false) : roomB f m (addU l ⟨u, s, (c : Int), []⟩) t c' = false := by
  have hn' : ∀ y ∈ l, y.u ≠ (⟨u, s, (c : Int), []⟩ : Pl).u := hn
  rw [roomB_no] at h ⊢
  intro hb
  have h2 := h hb
  rw [addU_eq hn', put_room rfl]
  unfold roomN at h2
  split
  · rw [if_pos (by assumption)] at h2
    split
    · show _ - s < t
      omega
    · omega
  · rw [if_neg (by assumption)] at h2
    exact h2

def fitS (f : Int) (m : Nat) (st : List Pl × List Sp) (w : Sp) : List Pl × List Sp :=
  match firstR f m st.1 w.2 with
  | some c => (addU st.1 ⟨w.1, w.2, (c : Int), []⟩, st.2)
  | none => (st.1, st.2 ++ [w])
def fitT (f : Int) (m : Nat) (l : List Pl) (ws : List Sp) : List Pl × List Sp := ws.foldl (fitS f m) (l, [])
theorem fitT_snoc (f : Int) (m : Nat) (l : List Pl) (ws : List Sp) (w : Sp) : fitT f m l (ws ++ [w]) = fitS f m (fitT f m l ws) w := by unfold fitT; rw [List.foldl_append]; rfl
theorem fitT_take {f : Int} {m : Nat} {l : List Pl} {ws : List Sp} {k : Nat} {w : Sp} (h : ws[k]? = some w) : fitT f m l (ws.take (k + 1)) = fitS f m (fitT f m l (ws.take k)) w := by
  rw [List.take_add_one, h, Option.toList_some, fitT_snoc]
theorem fitS_some {f : Int} {m : Nat} {st : List Pl × List Sp} {w : Sp} {c : Nat} (h : firstR f m st.1 w.2 = some c) : fitS f m st w = (addU st.1 ⟨w.1, w.2, (c : Int), []⟩, st.2) := by unfold fitS; rw [h]
theorem fitS_none {f : Int} {m : Nat} {st : List Pl × List Sp} {w : Sp} (h : firstR f m st.1 w.2 = none) : fitS f m st w = (st.1, st.2 ++ [w]) := by unfold fitS; rw [h]
/-- Wants that may be placed, of units of their own. -/
structure WOk (f : Int) (ws : List Sp) : Prop where
  all : ∀ w ∈ ws, isU w.1 = true ∧ 1 ≤ w.2 ∧ w.2 ≤ f
  two : (ws.map Prod.fst).Nodup
theorem WOk.perm {f : Int} {a b : List Sp} (h : WOk f a) (hp : b.Perm a) : WOk f b := ⟨fun w hw => h.all w (hp.mem_iff.1 hw), (hp.map _).nodup_iff.2 h.two⟩
theorem WOk.of_chk {f : Int} {ws : List Sp} (h : chkT f ws = 0) : (2 ≤ f ∧ f ≤ 64) ∧ WOk f ws := by
  unfold chkT at h
  by_cases hf : f < 2 ∨ 64 < f
  · rw [if_pos hf] at h; exact absurd h (by decide)
  · rw [if_neg hf] at h
    have hz := (chkL_zero ws []).1 h
    refine ⟨by omega, fun w hw => ?_, ?_⟩
    · obtain ⟨i, hi⟩ := List.mem_iff_getElem?.1 hw
      obtain ⟨h1, h2, h3, _⟩ := chkE_zero.1 (hz i w hi)
      exact ⟨h1, h2, h3⟩
    · rw [List.Nodup, List.pairwise_iff_getElem]
      intro i j hi hj hij he
      rw [List.length_map] at hi hj
      rw [List.getElem_map, List.getElem_map] at he
      obtain ⟨_, _, _, h4⟩ := chkE_zero.1 (hz j _ (List.getElem?_eq_getElem hj))
      rw [List.nil_append, List.any_eq_false] at h4
      exact h4 ws[i] (by rw [List.mem_take_iff_getElem]; exact ⟨i, by omega, rfl⟩) (decide_eq_true he)
theorem WOk.front {f : Int} {a b : List Sp} (h : WOk f (a ++ b)) : WOk f a := ⟨fun w hw => h.all w (List.mem_append_left _ hw), by
  have := h.two
  rw [List.map_append] at this
  exact (List.nodup_append.1 this).1⟩
theorem WOk.last {f : Int} {a : List Sp} {w : Sp} (h : WOk f (a ++ [w])) : ∀ v ∈ a, v.1 ≠ w.1 := fun v hv e => by
  have := h.two
  rw [List.map_append] at this
  exact (List.nodup_append.1 this).2.2 v.1 (List.mem_map_of_mem hv) w.1 (by simp) e
/-- What holds behind some wants. -/
structure FitInv (f : Int) (m : Nat) (l0 : List Pl) (ws : List Sp) (st : List Pl × List Sp) : Prop where
  right : Right f m st.1
  units : ∀ x ∈ st.1, x ∈ l0 ∨ ∃ w ∈ ws, w.1 = x.u
  keep : ∀ x ∈ l0, x ∈ st.1
  len : st.1.length + st.2.length = l0.length + ws.length
  tight : ∀ w ∈ st.2, firstR f m st.1 w.2 = none
  ok : (∀ x ∈ l0, PlOk x ∧ x.ps.length ≤ 1000) → ∀ x ∈ st.1, PlOk x ∧ x.ps.length ≤ 1000
  sum : sumS (wantsT st.1) + sumS st.2 = sumS (wantsT l0) + sumS ws
  mem : ∀ w ∈ st.2, w ∈ ws
theorem isU_range {u : Int} (h : isU u = true) : 1 ≤ u ∧ u ≤ 1040 := by
  simp [isU] at h
  omega
theorem FitInv.next {f : Int} {m : Nat} {l0 : List Pl} {ws : List Sp} {st : List Pl × List Sp} {w : Sp} (h : FitInv f m l0 ws st) (hw : WOk f (ws ++ [w])) (h0 : ∀ x ∈ l0, x.u ≠ w.1) : FitInv f m l0 (ws ++ [w]) (fitS f m st w) := by
  obtain ⟨hu, h1, h2⟩ := hw.all w (by simp)
  have hn : ∀ y ∈ st.1, y.u ≠ w.1 := fun y hy => by
    rcases h.units y hy with hl | ⟨v, hv, he⟩
    · exact h0 y hl
    · rw [← he]
      exact hw.last v hv
  cases hf : firstR f m st.1 w.2 with
  | none =>
    rw [fitS_none hf]
    refine ⟨h.right, fun x hx => ?_, h.keep, ?_, fun v hv => ?_, h.ok, ?_, fun v hv => ?_⟩
    · rcases h.units x hx with hl | ⟨v, hv, he⟩
      · exact .inl hl
      · exact .inr ⟨v, List.mem_append_left _ hv, he⟩
    · have := h.len
      simp only [List.length_append, List.length_singleton]
      omega
    · rcases List.mem_append.1 hv with hv | hv
      · exact h.tight v hv
      · rw [List.mem_singleton.1 hv]
        exact hf
    · have := h.sum
      simp only [sumS_append]
      omega
    · rcases List.mem_append.1 hv with hv | hv
      · exact List.mem_append_left _ (h.mem v hv)
      · exact List.mem_append_right _ hv
  | some c =>
    rw [fitS_some hf]
    obtain ⟨hc, hb, _⟩ := firstR_some.1 hf
    have hn' : ∀ y ∈ st.1, y.u ≠ (⟨w.1, w.2, (c : Int), []⟩ : Pl).u := hn
    have hR := h.right.put hn hu h1 h2 hc hb
    refine ⟨hR, fun x hx => ?_, fun x hx => ?_, ?_, fun v hv => ?_, fun ho x hx => ?_, ?_, fun v hv => List.mem_append_left _ (h.mem v hv)⟩
    · have hx' : x ∈ addU st.1 ⟨w.1, w.2, (c : Int), []⟩ := hx
      rw [addU_eq hn'] at hx'
      rcases putPl_mem.1 hx' with rfl | hl
      · exact .inr ⟨w, by simp, rfl⟩
      · rcases h.units x hl with hl | ⟨v, hv, he⟩
        · exact .inl hl
        · exact .inr ⟨v, List.mem_append_left _ hv, he⟩
    · show x ∈ addU st.1 ⟨w.1, w.2, (c : Int), []⟩
      rw [addU_eq hn']
      exact putPl_mem.2 (.inr (h.keep x hx))
    · show (addU st.1 ⟨w.1, w.2, (c : Int), []⟩).length + st.2.length = _
      rw [addU_eq hn', putPl_length, List.length_append, List.length_singleton]
      have := h.len
      omega
    · have := h.tight v hv
      rw [firstR_none] at this ⊢
      exact fun j hj => put_roomB hn (by omega) (this j hj)
    · have hx' : x ∈ addU st.1 ⟨w.1, w.2, (c : Int), []⟩ := hx
      rw [addU_eq hn'] at hx'
      rcases putPl_mem.1 hx' with rfl | hl
      · have hf64 := h.right.f64
        have hr := isU_range hu
        refine ⟨⟨?_, ?_, ?_, fun y hy => by cases hy⟩, by simp⟩
        · show Int64 w.1
          unfold Int64; omega
        · show Int64 w.2
          unfold Int64; omega
        · show Int64 (c : Int)
          unfold Int64; omega
      · exact h.ok ho x hl
    · show sumS (wantsT (addU st.1 ⟨w.1, w.2, (c : Int), []⟩)) + sumS st.2 = _
      rw [addU_eq hn', put_sum (fun l => sumS (wantsT l)) (fun a b => by show sumS (wantsT (a ++ b)) = _; unfold wantsT; rw [List.map_append, sumS_append])]
      have := h.sum
      rw [sumS_append]
      have e1 : sumS (wantsT [⟨w.1, w.2, (c : Int), []⟩]) = w.2 := by simp [wantsT, sumS]
      have e2 : sumS [w] = w.2 := by simp [sumS]
      omega
theorem fit_inv {f : Int} {m : Nat} {l0 : List Pl} (hr : Right f m l0) {ws : List Sp} (hw : WOk f ws) (h0 : ∀ x ∈ l0, ∀ w ∈ ws, x.u ≠ w.1) : ∀ k : Nat, k ≤ ws.length → FitInv f m l0 (ws.take k) (fitT f m l0 (ws.take k))
  | 0, _ => ⟨hr, fun x hx => .inl hx, fun x hx => hx, rfl, (fun w hw => by cases hw), fun ho => ho, rfl, (fun w hw => by cases hw)⟩
  | k + 1, hk => by
    have ih := fit_inv hr hw h0 k (by omega)
    have hx : ws[k]? = some ws[k] := List.getElem?_eq_getElem (by omega)
    rw [fitT_take hx, List.take_add_one, hx, Option.toList_some]
    have hwk : WOk f (ws.take k ++ [ws[k]]) := by
      have e : ws.take (k + 1) = ws.take k ++ [ws[k]] := by rw [List.take_add_one, hx, Option.toList_some]
      rw [← e]
      exact WOk.front (b := ws.drop (k + 1)) (by rw [List.take_append_drop]; exact hw)
    exact ih.next hwk fun x hx' => h0 x hx' ws[k] (List.getElem_mem (by omega))
theorem fit_all {f : Int} {m : Nat} {l0 : List Pl} (hr : Right f m l0) {ws : List Sp} (hw : WOk f ws) (h0 : ∀ x ∈ l0, ∀ w ∈ ws, x.u ≠ w.1) : FitInv f m l0 ws (fitT f m l0 ws) := by
  have := fit_inv hr hw h0 ws.length (Nat.le_refl _)
  rwa [List.take_length] at this
/-- Of units of their own, Find finds each. -/
theorem Right.found {f : Int} {m : Nat} {l : List Pl} (h : Right f m l) {x : Pl} (hx : x ∈ l) : findU l x.u = some x := by
  unfold findU
  have hne : (l.find? fun y => decide (y.u = x.u)) ≠ none := by
    rw [Ne, List.find?_eq_none]
    intro e
    exact e x hx (decide_eq_true rfl)
  obtain ⟨y, hy⟩ := Option.ne_none_iff_exists'.1 hne
  rw [hy]
  have hu : y.u = x.u := by simpa using List.find?_some hy
  have hm := List.mem_of_find?_eq_some hy
  obtain ⟨i, hi⟩ := List.mem_iff_getElem?.1 hm
  obtain ⟨j, hj⟩ := List.mem_iff_getElem?.1 hx
  rcases Nat.lt_trichotomy i j with hlt | rfl | hlt
  · have := h.rise hlt hi hj; omega
  · rw [hi] at hj; exact hj
  · have := h.rise hlt hj hi; omega

def anyB (l : List Pl) (ws : List Sp) : Bool := ws.any fun w => (findU l w.1).isSome
def Why (f : Int) (m : Nat) (l : List Pl) (ws : List Sp) (E : Int) : Prop :=
  (¬ Right f m l ∧ E = 30) ∨ (Right f m l ∧ chkT f ws ≠ 0 ∧ E = chkT f ws) ∨ (Right f m l ∧ chkT f ws = 0 ∧ anyB l ws = true ∧ E = 11) ∨ (Right f m l ∧ chkT f ws = 0 ∧ anyB l ws = false ∧ E = 0)
theorem Why.unique {f : Int} {m : Nat} {l : List Pl} {ws : List Sp} {E E' : Int} (h : Why f m l ws E) (h' : Why f m l ws E') : E = E' := by
  rcases h with ⟨h1, rfl⟩ | ⟨h1, h2, rfl⟩ | ⟨h1, h2, h3, rfl⟩ | ⟨h1, h2, h3, rfl⟩ <;> rcases h' with ⟨k1, rfl⟩ | ⟨k1, k2, rfl⟩ | ⟨k1, k2, k3, rfl⟩ | ⟨k1, k2, k3, rfl⟩ <;> simp_all
structure Goes (f : Int) (m : Nat) (l : List Pl) (ws : List Sp) : Prop where
  right : Right f m l
  chk : chkT f ws = 0
  none : anyB l ws = false
theorem Why.zero {f : Int} {m : Nat} {l : List Pl} {ws : List Sp} (h : Why f m l ws 0) : Goes f m l ws := by
  rcases h with ⟨h1, h0⟩ | ⟨h1, h2, h0⟩ | ⟨h1, h2, h3, h0⟩ | ⟨h1, h2, h3, _⟩
  · exact absurd h0 (by decide)
  · exact absurd h0.symm h2
  · exact absurd h0 (by decide)
  · exact ⟨h1, h2, h3⟩
theorem Goes.why {f : Int} {m : Nat} {l : List Pl} {ws : List Sp} (h : Goes f m l ws) : Why f m l ws 0 := .inr (.inr (.inr ⟨h.right, h.chk, h.none, rfl⟩))
theorem anyB_no {l : List Pl} {ws : List Sp} (h : anyB l ws = false) : ∀ x ∈ l, ∀ w ∈ ws, x.u ≠ w.1 := fun x hx w hw e => by
  unfold anyB at h
  rw [List.any_eq_false] at h
  refine h w hw ?_
  unfold findU
  rw [List.find?_isSome]
  exact ⟨x, hx, decide_eq_true e⟩
theorem Goes.inv {f : Int} {m : Nat} {l : List Pl} {ws : List Sp} (h : Goes f m l ws) {k : Nat} (hk : k ≤ ws.length) : FitInv f m l ((sortT ws).take k) (fitT f m l ((sortT ws).take k)) :=
  fit_inv h.right ((WOk.of_chk h.chk).2.perm (sortT_perm ws)) (fun x hx w hw => anyB_no h.none x hx w ((sortT_perm ws).mem_iff.1 hw)) k (by rw [sortT_length]; exact hk)
def maxT : List Sp → Int
  | [] => 0
  | w :: r => max w.2 (maxT r)
theorem maxT_nonneg : ∀ l : List Sp, 0 ≤ maxT l
  | [] => Int.le_refl _
  | x :: l => by have := maxT_nonneg l; rw [maxT]; omega
theorem maxT_bound {B : Int} (hB : 0 ≤ B) : ∀ l : List Sp, (∀ w ∈ l, w.2 ≤ B) → maxT l ≤ B
  | [], _ => hB
  | x :: l, h => by
    have h1 := maxT_bound hB l fun w hw => h w (by simp [hw])
    have h2 := h x (by simp)
    rw [maxT]; omega
end Go.Proofs.YtpfpojehcjmfnaaGreat

/-
  A set that is turned; ticks from one on, round: what the program answers.
  Conditions: the numbers are of their kinds.
-/
set_option linter.unusedVariables false
namespace Go.Proofs.YtpfpojehcjmfnaaGreat
open Go.RowKit

theorem modulo_any (n : Int) (f : Nat) (w : World) (h0 : 0 < f) (hf : f ≤ 64) : Calls Tryz.prog 195 #[.int .i64 n, .int .i64 f] w (Ret (.int .i64 (modN n f)) w) := by
  have hfz : ((f : Int) != 0) = true := by simp; omega
  have hm := Lib.hid (modulo_word n f h0 hf)
  go_enter Tryz.func195, Tryz.ntmps195
  go_wp2
  go_ret
  exact ⟨ret_int hm.out, rfl⟩

/-- Where a tick comes from. -/
def srcN (f l j : Nat) : Nat := if l ≤ j then j - l else j + f - l
def turnN (f m l : Nat) : Nat := setP (fun j => decide (j < f) && m.testBit (srcN f l j))

theorem turn_zero (m l : Nat) : turnN 0 m l = 0 := setP_zero (fun j _ => by simp)

theorem turn_word (f m l d : Nat) (hm : m < 18446744073709551616) (hf : f ≤ 64) (hl : l < f) (hd : l + d = f) :
    ((m &&& allN f) * 2 ^ l % 18446744073709551616 ||| (m &&& allN f) / 2 ^ d) &&& allN f = turnN f m l := by
  have hb : (((m &&& allN f) * 2 ^ l % 18446744073709551616 ||| (m &&& allN f) / 2 ^ d) &&& allN f) < 18446744073709551616 := Nat.lt_of_le_of_lt Nat.and_le_right (allN_lt hf)
  refine eq_setP hb (fun j hj => ?_)
  have e : ∀ x, x % 18446744073709551616 = x % 2 ^ 64 := fun x => by rw [two64]
  rw [Nat.testBit_and, Nat.testBit_or, e, Nat.testBit_mod_two_pow, Nat.testBit_mul_two_pow, Nat.testBit_div_two_pow, Nat.testBit_and, Nat.testBit_and, allN_bit, allN_bit, allN_bit]
  unfold srcN
  by_cases h1 : j < f
  · by_cases h2 : l ≤ j
    · have h3 : ¬ j + d < f := by omega
      have h4 : j - l < f := by omega
      simp [h1, h2, h3, h4, hj]
    · have h3 : j + d < f := by omega
      have h5 : j + f - l = j + d := by omega
      simp [h1, h2, h3, hj, h5]
  · simp [h1]

theorem shl_nat (m l : Nat) : IntKind.u64.wrap ((m : Int) * 2 ^ l) = ((m * 2 ^ l % 18446744073709551616 : Nat) : Int) := by
  rw [show ((m : Int) * 2 ^ l) = ((m * 2 ^ l : Nat) : Int) by simp]
  generalize m * 2 ^ l = x
  rw [IntKind.wrap_u64]
  omega
theorem shr_nat (m d : Nat) : ((m : Int) / 2 ^ d) = ((m / 2 ^ d : Nat) : Int) := by simp
theorem turn_int (f m1 l d al r : Nat) (hm1 : m1 < 18446744073709551616) (ha : al < 18446744073709551616) (h : (m1 * 2 ^ l % 18446744073709551616 ||| m1 / 2 ^ d) &&& al = r) :
    bits BinOp.and IntKind.u64 (bits BinOp.or IntKind.u64 (IntKind.u64.wrap ((m1 : Int) * 2 ^ l)) ((m1 : Int) / 2 ^ d)) (al : Int) = (r : Int) := by
  have h1 : m1 * 2 ^ l % 18446744073709551616 < 18446744073709551616 := Nat.mod_lt _ (by decide)
  have h2 : m1 / 2 ^ d < 18446744073709551616 := Nat.lt_of_le_of_lt (Nat.div_le_self _ _) hm1
  have h3 : (m1 * 2 ^ l % 18446744073709551616 ||| m1 / 2 ^ d) < 18446744073709551616 := by
    rw [← two64] at h1 h2 ⊢
    exact Nat.or_lt_two_pow h1 h2
  rw [shl_nat, shr_nat, bits_or_u64_nat _ _ h1 h2, bits_and_u64_nat _ _ h3 ha, h]

set_option maxRecDepth 100000 in
set_option maxHeartbeats 1000000 in
theorem turn_any (F : Int) (m : Nat) (k : Int) (w : World) (hm : m < 18446744073709551616) :
    Calls Tryz.prog 172 #[.int .i64 F, .int .u64 m, .int .i64 k] w (RetB (.int .u64 (turnN (frN F) m (modN k (frN F)))) w) := by
  have HL := Lib.hid (fun W => length_any F W)
  have hf := frN_le F
  generalize frN F = f at *
  by_cases h0 : f = 0
  · subst h0
    rw [turn_zero]
    go_enter Tryz.func172, Tryz.ntmps172
    go_wp2_with (go_at_call 194; refine (HL.out _).mono ?_; rintro e w' ⟨rfl, rfl⟩)
    go_ret
    exact ⟨rfl, Below.refl _ _⟩
  · have hfz : ((f : Int) == 0) = false := by simp; omega
    have e0 : frN (f : Int) = f := by unfold frN; omega
    have HA := Lib.hid (fun W => all_any (f : Int) W)
    rw [e0] at HA
    have HM := Lib.hid (fun W => modulo_any k f W (by omega) hf)
    have hl : modN k f < f := modN_lt (by omega)
    have hw := fun d hd => turn_word f m (modN k f) d hm hf hl hd
    generalize modN k f = l at *
    have ha := allN_lt hf
    have hm1 : m &&& allN f < 18446744073709551616 := Nat.lt_of_le_of_lt Nat.and_le_left hm
    have e1 := bits_and_u64_nat m (allN f) hm ha
    generalize m &&& allN f = m1 at *
    generalize allN f = al at *
    obtain ⟨d, hd⟩ : ∃ d, l + d = f := ⟨f - l, by omega⟩
    have HW := Lib.hid (hw d hd)
    have hd1 : 1 ≤ d := by omega
    have hsub : IntKind.i64.wrap ((f : Int) - (l : Int)) = (d : Int) := by rw [IntWalk.i64_in _ (by omega)]; omega
    clear hw h0 e0
    go_enter Tryz.func172, Tryz.ntmps172
    go_wp2_with (first | (go_at_call 194; refine (HL.out _).mono ?_; rintro e w' ⟨rfl, rfl⟩) | (go_at_call 173; refine (HA.out _).mono ?_; rintro e w' ⟨rfl, rfl⟩) | (go_at_call 195; refine (HM.out _).mono ?_; rintro e w' ⟨rfl, rfl⟩))
    go_quiet ((go_at_call 173; exact quiet_ret (HA.out _)))
    go_wp2_with fail
    go_ret
    refine ⟨ret_int (turn_int f m1 l d al _ hm1 ha HW.out), below_drewN (Below.refl _ _) _⟩

/-- n ticks from l on, round. -/
def roundN (f n l : Nat) : Nat := setP (fun j => decide (j < f) && decide (srcN f l j < n))
theorem turn_all (f n l : Nat) : turnN f (allN n) l = roundN f n l := setP_congr (fun j _ => by rw [allN_bit])

set_option maxHeartbeats 1000000 in
theorem round_any (F from_ n : Int) (w : World) :
    Calls Tryz.prog 135 #[.int .i64 F, .int .i64 from_, .int .i64 n] w (RetB (.int .u64 (roundN (frN F) (frN n) (modN from_ (frN F)))) w) := by
  have HA := Lib.hid (fun W => all_any n W)
  have HT := Lib.hid (turn_any F (allN (frN n)) from_ w (allN_lt (frN_le n)))
  rw [turn_all] at HT
  generalize allN (frN n) = al at *
  generalize roundN (frN F) (frN n) (modN from_ (frN F)) = r at *
  go_enter Tryz.func135, Tryz.ntmps135
  go_wp2_with (first | (go_at_call 173; refine (HA.out _).mono ?_; rintro e w' ⟨rfl, rfl⟩) | (go_at_call 172; refine HT.out.mono ?_; rintro e w' ⟨rfl, hb⟩))
  go_ret
  exact ⟨rfl, hb⟩
end Go.Proofs.YtpfpojehcjmfnaaGreat
