/-
  slices.Concat of two rows of pieces.
  Conditions: none beyond what the slices read as.
-/
import Derived.Test.YtincbilobmhgeaaM09
import Derived.Test.YtincbilobmhgeaaM11
import Derived.Test.YtincbilobmhgeaaM08
import Derived.Test.YtincbilobmhgeaaM03
import Derived.Laws.OwnMore
import Derived.Lib.AppendZerosOnto

/-
  Are two plans right, and not too much, as the laws ask.
  Conditions: the slices read as places; the numbers are of their kinds.
-/
set_option linter.unusedVariables false
set_option linter.unusedSimpArgs false
namespace Go.Proofs.Ytincbilobmhgeaa
open Go.RowKit

set_option maxRecDepth 100000 in
set_option maxHeartbeats 8000000 in
theorem right2_any (f1 f2 : Int) (m1 m2 : Nat) (v1 v2 : Value) (la lb : List Pl) (w : World) (h1 : PlsAt w v1 la) (h2 : PlsAt w v2 lb) (ho1 : ∀ x ∈ la, PlOk x) (ho2 : ∀ x ∈ lb, PlOk x) (hm1 : m1 < 4294967296) (hm2 : m2 < 4294967296) :
    Calls Try.prog 7 #[planA f1 m1 v1, planA f2 m2 v2] w (RetIff ((Lit la ∧ Lit lb) ∧ Right f1 m1 la ∧ Right f2 m2 lb) w) := by
  obtain ⟨w1, P, hw1, hP, hPl, hb1, hpb⟩ := box_any w #[.int .i64 f1, .int .u32 m1, v1] 25
  obtain ⟨w2, Q, hw2, hQ, hQl, hb2, hqb⟩ := box_any w1 #[.int .i64 f2, .int .u32 m2, v2] 25
  have HB2 := Lib.hid (hb1.trans (hb2.mono hb1.size))
  have HPB := Lib.hid (keep_block hpb hb2)
  have HQB := Lib.hid hqb
  have HSA : Hid (∀ W, Below w2.heap.size w2 W → W.cell? ⟨P, 0, none⟩ = some (.int .i64 f1) ∧ W.cell? ⟨P, 1, none⟩ = some (.int .u32 m1) ∧ W.cell? ⟨P, 2, none⟩ = some v1 ∧ W.cell? ⟨Q, 0, none⟩ = some (.int .i64 f2) ∧ W.cell? ⟨Q, 1, none⟩ = some (.int .u32 m2) ∧ W.cell? ⟨Q, 2, none⟩ = some v2) := Lib.hid (fun W hk => by
    obtain ⟨a, b, c⟩ := three_heads (keep_block HPB.out hk)
    obtain ⟨d, e, f⟩ := three_heads (keep_block HQB.out hk)
    exact ⟨a, b, c, d, e, f⟩)
  have HP1 : Hid (∀ W, Below w2.heap.size w2 W → PlsAt W v1 la) := Lib.hid (fun W hk => h1.keep (HB2.out.trans (hk.mono HB2.out.size)))
  have HP2 : Hid (∀ W, Below w2.heap.size w2 W → PlsAt W v2 lb) := Lib.hid (fun W hk => h2.keep (HB2.out.trans (hk.mono HB2.out.size)))
  have HLA := Lib.hid (fun W hk => calls_iff (light_any f1 m1 v1 la W (HP1.out W hk)))
  have HLB := Lib.hid (fun W hk => calls_iff (light_any f2 m2 v2 lb W (HP2.out W hk)))
  have HRA := Lib.hid (fun (hl : Lit la) W hk => calls_iff (right_any f1 m1 v1 la W (HP1.out W hk) (hl.light ho1) hm1))
  have HRB := Lib.hid (fun (hl : Lit lb) W hk => calls_iff (right_any f2 m2 v2 lb W (HP2.out W hk) (hl.light ho2) hm2))
  have HK0 := Lib.hid (Below.refl w2.heap.size w2)
  obtain ⟨p0, p1, p2, q0, q1, q2⟩ := HSA.out _ HK0.out
  unfold planA at HLA HLB HRA HRB ⊢
  clear h1 h2 hb1 hb2 hpb hqb ho1 ho2 hm1 hm2
  go_enter Try.func7, Try.ntmps7
  go_wp2_with fail
  clear hw1 hw2 hP hQ
  by_cases hA : Lit la
  · refine ((HLA.out _ HK0.out).1 hA).mono ?_
    rintro e w3 ⟨rfl, hb⟩
    have HK1 := Lib.hid (HK0.out.trans (hb.mono HK0.out.size))
    clear hb p0 p1 p2 q0 q1 q2
    obtain ⟨p0, p1, p2, q0, q1, q2⟩ := HSA.out _ HK1.out
    go_wp2_with fail
    by_cases hB : Lit lb
    · refine ((HLB.out _ HK1.out).1 hB).mono ?_
      rintro e w4 ⟨rfl, hb⟩
      have HK2 := Lib.hid (HK1.out.trans (hb.mono HK1.out.size))
      clear hb p0 p1 p2 q0 q1 q2
      obtain ⟨p0, p1, p2, q0, q1, q2⟩ := HSA.out _ HK2.out
      go_wp2_with fail
      by_cases hC : Right f1 m1 la
      · refine ((HRA.out hA _ HK2.out).1 hC).mono ?_
        rintro e w5 ⟨rfl, hb⟩
        have HK3 := Lib.hid (HK2.out.trans (hb.mono HK2.out.size))
        clear hb p0 p1 p2 q0 q1 q2
        obtain ⟨p0, p1, p2, q0, q1, q2⟩ := HSA.out _ HK3.out
        go_wp2_with fail
        by_cases hD : Right f2 m2 lb
        · refine ((HRB.out hB _ HK3.out).1 hD).mono ?_
          rintro e w6 ⟨rfl, hb⟩
          have HK4 := Lib.hid (HK3.out.trans (hb.mono HK3.out.size))
          clear hb p0 p1 p2 q0 q1 q2
          have HBE := Lib.hid (HB2.out.trans (HK4.out.mono HB2.out.size))
          go_wp2_with fail
          go_ret
          exact RetIff.yes ⟨⟨hA, hB⟩, hC, hD⟩ HBE.out
        · have hn := hD
          refine ((HRB.out hB _ HK3.out).2 hn).mono ?_
          rintro e w6 ⟨rfl, hb⟩
          have HK4 := Lib.hid (HK3.out.trans (hb.mono HK3.out.size))
          clear hb p0 p1 p2 q0 q1 q2
          have HBE := Lib.hid (HB2.out.trans (HK4.out.mono HB2.out.size))
          go_wp2_with fail
          go_ret
          exact RetIff.no (fun h => hn h.2.2) HBE.out
      · have hn := hC
        refine ((HRA.out hA _ HK2.out).2 hn).mono ?_
        rintro e w5 ⟨rfl, hb⟩
        have HK3 := Lib.hid (HK2.out.trans (hb.mono HK2.out.size))
        clear hb p0 p1 p2 q0 q1 q2
        have HBE := Lib.hid (HB2.out.trans (HK3.out.mono HB2.out.size))
        go_wp2_with fail
        go_ret
        exact RetIff.no (fun h => hn h.2.1) HBE.out
    · have hn := hB
      refine ((HLB.out _ HK1.out).2 hn).mono ?_
      rintro e w4 ⟨rfl, hb⟩
      have HK2 := Lib.hid (HK1.out.trans (hb.mono HK1.out.size))
      clear hb p0 p1 p2 q0 q1 q2
      have HBE := Lib.hid (HB2.out.trans (HK2.out.mono HB2.out.size))
      go_wp2_with fail
      go_ret
      exact RetIff.no (fun h => hn h.1.2) HBE.out
  · have hn := hA
    refine ((HLA.out _ HK0.out).2 hn).mono ?_
    rintro e w3 ⟨rfl, hb⟩
    have HK1 := Lib.hid (HK0.out.trans (hb.mono HK0.out.size))
    clear hb p0 p1 p2 q0 q1 q2
    have HBE := Lib.hid (HB2.out.trans (HK1.out.mono HB2.out.size))
    go_wp2_with fail
    go_ret
    exact RetIff.no (fun h => hn h.1.1) HBE.out
end Go.Proofs.Ytincbilobmhgeaa

/-
  Who is moved, came, is gone, or has another share: what the program filters is the document's list.
  Conditions: both plans are right.
-/
set_option linter.unusedVariables false
namespace Go.Proofs.Ytincbilobmhgeaa
open Go.RowKit

theorem Right.distinct {f : Int} {m : Nat} {l : List Pl} (h : Right f m l) : l.Pairwise (fun x y => x.u ≠ y.u) := by
  rw [List.pairwise_iff_getElem]
  intro i j hi hj hij
  have h2 := h.rises (j - i - 1) i l[i] l[j] (List.getElem?_eq_getElem hi) (by rw [show i + (j - i - 1) + 1 = j by omega]; exact List.getElem?_eq_getElem hj)
  omega
theorem Right.plF {f : Int} {m : Nat} {l : List Pl} (h : Right f m l) (u : Int) : plF (idxF l) u = placeU l u := by
  unfold Go.Proofs.Ytincbilobmhgeaa.plF placeU
  rw [idxF_find h.distinct]
theorem Right.some_ {f : Int} {m : Nat} {l : List Pl} (h : Right f m l) (u : Int) : (idxF l u).isSome = inU l u := by
  unfold inU
  rw [idxF_find h.distinct]
theorem find_mem {l : List Pl} {u : Int} {x : Pl} (h : findU l u = some x) : x ∈ l ∧ x.u = u := by
  unfold findU at h
  have h2 := List.find?_some (p := fun x : Pl => decide (x.u = u)) h
  exact ⟨List.mem_of_find?_eq_some h, of_decide_eq_true h2⟩
theorem Right.inU_range {f : Int} {m : Nat} {l : List Pl} (h : Right f m l) {u : Int} (hu : inU l u = true) : 1 ≤ u ∧ u ≤ 1040 := by
  unfold inU at hu
  obtain ⟨x, hx⟩ := Option.isSome_iff_exists.1 hu
  obtain ⟨h1, h2⟩ := find_mem hx
  have h3 := (h.place x h1).unit
  simp [isU] at h3
  omega
theorem Right.isB {f : Int} {m : Nat} {l : List Pl} (h : Right f m l) (u : Int) : isB (placeU l u) = inU l u := by
  unfold Go.Proofs.Ytincbilobmhgeaa.isB placeU inU
  cases hx : findU l u with
  | none => rfl
  | some x =>
    obtain ⟨h1, h2⟩ := find_mem hx
    have h3 := (h.place x h1).unit
    simp [isU] at h3
    simp
    omega
theorem placeU_of {l : List Pl} {u : Int} (h : inU l u = true) : placeU l u ∈ l ∧ (placeU l u).u = u := by
  unfold inU at h
  obtain ⟨x, hx⟩ := Option.isSome_iff_exists.1 h
  unfold placeU
  rw [hx]
  exact find_mem hx
theorem UnitsOf.iff {f1 f2 : Int} {m1 m2 : Nat} {la lb : List Pl} (h1 : Right f1 m1 la) (h2 : Right f2 m2 lb) {xs : List Int} (hx : UnitsOf (idxF la) (idxF lb) xs) (u : Int) : u ∈ xs ↔ (inU la u = true ∨ inU lb u = true) := by
  rw [hx.2.1, h1.some_, h2.some_]
/-- The units of both are the document's. -/
theorem UnitsOf.is {f1 f2 : Int} {m1 m2 : Nat} {la lb : List Pl} (h1 : Right f1 m1 la) (h2 : Right f2 m2 lb) {xs : List Int} (hx : UnitsOf (idxF la) (idxF lb) xs) : xs = unitsU la lb := by
  refine hx.1.unique (allU_up.filter _) fun u => ?_
  rw [UnitsOf.iff h1 h2 hx]
  unfold unitsU
  rw [List.mem_filter, mem_allU, Bool.or_eq_true]
  refine ⟨fun h => ⟨?_, h⟩, fun h => h.2⟩
  rcases h with h | h
  · exact h1.inU_range h
  · exact h2.inU_range h
/-- What the program's word says of a unit's places, as the document's list. -/
theorem who_list {f1 f2 : Int} {m1 m2 : Nat} {la lb : List Pl} (h1 : Right f1 m1 la) (h2 : Right f2 m2 lb) {xs : List Int} (hx : UnitsOf (idxF la) (idxF lb) xs) (k : Nat) (hold : Pl → Pl → Bool)
    (hk : ∀ u, (inU la u = true ∨ inU lb u = true) → hold (placeU la u) (placeU lb u) = kindB k la lb u) : xs.filter (fun u => hold (plF (idxF la) u) (plF (idxF lb) u)) = listU k la lb := by
  rw [UnitsOf.is h1 h2 hx]
  unfold listU
  refine List.filter_congr fun u hu => ?_
  unfold unitsU at hu
  rw [List.mem_filter, Bool.or_eq_true] at hu
  rw [h1.plF, h2.plF]
  exact hk u hu.2
theorem kind_moved {f1 f2 : Int} {m1 m2 : Nat} {la lb : List Pl} (h1 : Right f1 m1 la) (h2 : Right f2 m2 lb) (ho1 : ∀ x ∈ la, PlOk x) (ho2 : ∀ x ∈ lb, PlOk x) (u : Int) : mvB (placeU la u) (placeU lb u) = kindB 0 la lb u := by
  unfold mvB
  show _ = (inU la u && inU lb u && movedB (placeU la u) (placeU lb u))
  rw [h1.isB, h2.isB]
  cases ha : inU la u with
  | false => rfl
  | true =>
    cases hb : inU lb u with
    | false => rfl
    | true =>
      obtain ⟨a1, _⟩ := placeU_of ha
      obtain ⟨b1, _⟩ := placeU_of hb
      have hm := moved_iff (h1.place _ a1) (h2.place _ b1) (ho1 _ a1) (ho2 _ b1)
      unfold spotB
      show (!(decide _ && decide _)) = movedB _ _
      rw [← Bool.decide_and]
      cases hmv : movedB (placeU la u) (placeU lb u) with
      | true =>
        rw [decide_eq_false (hm.1 hmv)]
        rfl
      | false =>
        have h3 : ¬ ¬ ((placeU la u).c = (placeU lb u).c ∧ (placeU la u).ps = (placeU lb u).ps) := fun h => by
          rw [hm.2 h] at hmv
          cases hmv
        rw [decide_eq_true (Classical.not_not.1 h3)]
        rfl
theorem kind_came {f1 f2 : Int} {m1 m2 : Nat} {la lb : List Pl} (h1 : Right f1 m1 la) (h2 : Right f2 m2 lb) (u : Int) (hu : inU la u = true ∨ inU lb u = true) : cmB (placeU la u) (placeU lb u) = kindB 1 la lb u := by
  unfold cmB
  show _ = !inU la u
  rw [h1.isB, h2.isB]
  cases ha : inU la u with
  | true => rfl
  | false =>
    rw [ha] at hu
    rw [hu.resolve_left (by decide)]
    rfl
theorem kind_resized {f1 f2 : Int} {m1 m2 : Nat} {la lb : List Pl} (h1 : Right f1 m1 la) (h2 : Right f2 m2 lb) (u : Int) : rsB (placeU la u) (placeU lb u) = kindB 3 la lb u := by
  unfold rsB
  show _ = (inU la u && inU lb u && decide ((placeU la u).s ≠ (placeU lb u).s))
  rw [h1.isB, h2.isB]
  congr 1
  by_cases e : (placeU la u).s = (placeU lb u).s <;> simp [e]
end Go.Proofs.Ytincbilobmhgeaa

/-
  Moved, Came, Gone, Resized of the program.
  Conditions: both plans are right, and not too much.
-/
set_option linter.unusedVariables false
set_option linter.unusedSimpArgs false
namespace Go.Proofs.Ytincbilobmhgeaa
open Go.RowKit Go.Maps

abbrev RetLB := RetL

set_option maxRecDepth 100000 in
set_option maxHeartbeats 4000000 in
theorem diffMoved_any (f1 f2 : Int) (m1 m2 : Nat) (v1 v2 : Value) (la lb : List Pl) (w : World) (h1 : PlsAt w v1 la) (h2 : PlsAt w v2 lb) (hL1 : LightL la) (hL2 : LightL lb) (hr1 : Right f1 m1 la) (hr2 : Right f2 m2 lb) :
    Calls Try.prog 10 #[planA f1 m1 v1, planA f2 m2 v2] w (RetLB (listU 0 la lb) w) := by
  obtain ⟨w1, P, hw1, hP, hPl, hb1, hpb⟩ := box_any w #[.int .i64 f1, .int .u32 m1, v1] 25
  obtain ⟨w2, Q, hw2, hQ, hQl, hb2, hqb⟩ := box_any w1 #[.int .i64 f2, .int .u32 m2, v2] 25
  have HB2 := Lib.hid (hb1.trans (hb2.mono hb1.size))
  obtain ⟨r0, r1, r2⟩ := three_heads (keep_block hpb hb2)
  obtain ⟨q0, q1, q2⟩ := three_heads hqb
  have HW := Lib.hid (whoMoved_any f1 f2 m1 m2 v1 v2 la lb w2 (h1.keep HB2.out) (h2.keep HB2.out) (by have := hL1.len; omega) (by have := hL2.len; omega) (fun x hx => (hL1.ok x hx).1.1) (fun x hx => (hL2.ok x hx).1.1))
  have HE := Lib.hid (fun (xs : List Int) (hux : UnitsOf (idxF la) (idxF lb) xs) => who_list hr1 hr2 hux 0 mvB (fun u _ => kind_moved hr1 hr2 (fun x hx => (hL1.ok x hx).1) (fun x hx => (hL2.ok x hx).1) u))
  have HQ : Hid (Calls Try.prog 24 #[planA f1 m1 v1, planA f2 m2 v2, .func (.func 25) #[] #[]] w2 (RetL (listU 0 la lb) w2)) := Lib.hid (HW.out.mono fun e w9 ⟨xs, hux, h⟩ => by
    have e1 : whoT mvB (idxF la) (idxF lb) xs = listU 0 la lb := HE.out xs hux
    rw [e1] at h
    exact h)
  have hvf1 : ∃ A n c, v1 = .slice A n c := by obtain ⟨A, c, e, _⟩ := h1.form; exact ⟨A, _, c, e⟩
  have hvf2 : ∃ A n c, v2 = .slice A n c := by obtain ⟨A, c, e, _⟩ := h2.form; exact ⟨A, _, c, e⟩
  obtain ⟨vA1, vn1, vc1, rfl⟩ := hvf1
  obtain ⟨vA2, vn2, vc2, rfl⟩ := hvf2
  unfold planA at HQ ⊢
  obtain ⟨L, hL⟩ : ∃ L, listU 0 la lb = L := ⟨_, rfl⟩
  rw [hL] at HQ ⊢
  clear h1 h2 hL1 hL2 hr1 hr2 hb1 hb2 hpb hqb hL
  clear HW HE
  go_enter Try.func10, Try.ntmps10
  go_wp2_with fail
  refine HQ.out.mono ?_
  rintro e w3 ⟨v, rfl, hint, hb3⟩
  have HINT := Lib.hid hint
  have HB3 := Lib.hid (HB2.out.trans (hb3.mono HB2.out.size))
  clear hint hb3
  go_wp2_with fail
  go_ret
  exact ⟨_, rfl, HINT.out, HB3.out⟩

set_option maxRecDepth 100000 in
set_option maxHeartbeats 4000000 in
theorem diffCame_any (f1 f2 : Int) (m1 m2 : Nat) (v1 v2 : Value) (la lb : List Pl) (w : World) (h1 : PlsAt w v1 la) (h2 : PlsAt w v2 lb) (hL1 : LightL la) (hL2 : LightL lb) (hr1 : Right f1 m1 la) (hr2 : Right f2 m2 lb) :
    Calls Try.prog 12 #[planA f1 m1 v1, planA f2 m2 v2] w (RetLB (listU 1 la lb) w) := by
  obtain ⟨w1, P, hw1, hP, hPl, hb1, hpb⟩ := box_any w #[.int .i64 f1, .int .u32 m1, v1] 25
  obtain ⟨w2, Q, hw2, hQ, hQl, hb2, hqb⟩ := box_any w1 #[.int .i64 f2, .int .u32 m2, v2] 25
  have HB2 := Lib.hid (hb1.trans (hb2.mono hb1.size))
  obtain ⟨r0, r1, r2⟩ := three_heads (keep_block hpb hb2)
  obtain ⟨q0, q1, q2⟩ := three_heads hqb
  have HW := Lib.hid (whoCame_any f1 f2 m1 m2 v1 v2 la lb w2 (h1.keep HB2.out) (h2.keep HB2.out) (by have := hL1.len; omega) (by have := hL2.len; omega) (fun x hx => (hL1.ok x hx).1.1) (fun x hx => (hL2.ok x hx).1.1))
  have HE := Lib.hid (fun (xs : List Int) (hux : UnitsOf (idxF la) (idxF lb) xs) => who_list hr1 hr2 hux 1 cmB (fun u hu => kind_came hr1 hr2 u hu))
  have HQ : Hid (Calls Try.prog 24 #[planA f1 m1 v1, planA f2 m2 v2, .func (.func 30) #[] #[]] w2 (RetL (listU 1 la lb) w2)) := Lib.hid (HW.out.mono fun e w9 ⟨xs, hux, h⟩ => by
    have e1 : whoT cmB (idxF la) (idxF lb) xs = listU 1 la lb := HE.out xs hux
    rw [e1] at h
    exact h)
  have hvf1 : ∃ A n c, v1 = .slice A n c := by obtain ⟨A, c, e, _⟩ := h1.form; exact ⟨A, _, c, e⟩
  have hvf2 : ∃ A n c, v2 = .slice A n c := by obtain ⟨A, c, e, _⟩ := h2.form; exact ⟨A, _, c, e⟩
  obtain ⟨vA1, vn1, vc1, rfl⟩ := hvf1
  obtain ⟨vA2, vn2, vc2, rfl⟩ := hvf2
  unfold planA at HQ ⊢
  obtain ⟨L, hL⟩ : ∃ L, listU 1 la lb = L := ⟨_, rfl⟩
  rw [hL] at HQ ⊢
  clear h1 h2 hL1 hL2 hr1 hr2 hb1 hb2 hpb hqb hL
  clear HW HE
  go_enter Try.func12, Try.ntmps12
  go_wp2_with fail
  refine HQ.out.mono ?_
  rintro e w3 ⟨v, rfl, hint, hb3⟩
  have HINT := Lib.hid hint
  have HB3 := Lib.hid (HB2.out.trans (hb3.mono HB2.out.size))
  clear hint hb3
  go_wp2_with fail
  go_ret
  exact ⟨_, rfl, HINT.out, HB3.out⟩

set_option maxRecDepth 100000 in
set_option maxHeartbeats 4000000 in
theorem diffResized_any (f1 f2 : Int) (m1 m2 : Nat) (v1 v2 : Value) (la lb : List Pl) (w : World) (h1 : PlsAt w v1 la) (h2 : PlsAt w v2 lb) (hL1 : LightL la) (hL2 : LightL lb) (hr1 : Right f1 m1 la) (hr2 : Right f2 m2 lb) :
    Calls Try.prog 14 #[planA f1 m1 v1, planA f2 m2 v2] w (RetLB (listU 3 la lb) w) := by
  obtain ⟨w1, P, hw1, hP, hPl, hb1, hpb⟩ := box_any w #[.int .i64 f1, .int .u32 m1, v1] 25
  obtain ⟨w2, Q, hw2, hQ, hQl, hb2, hqb⟩ := box_any w1 #[.int .i64 f2, .int .u32 m2, v2] 25
  have HB2 := Lib.hid (hb1.trans (hb2.mono hb1.size))
  obtain ⟨r0, r1, r2⟩ := three_heads (keep_block hpb hb2)
  obtain ⟨q0, q1, q2⟩ := three_heads hqb
  have HW := Lib.hid (whoResized_any f1 f2 m1 m2 v1 v2 la lb w2 (h1.keep HB2.out) (h2.keep HB2.out) (by have := hL1.len; omega) (by have := hL2.len; omega) (fun x hx => (hL1.ok x hx).1.1) (fun x hx => (hL2.ok x hx).1.1))
  have HE := Lib.hid (fun (xs : List Int) (hux : UnitsOf (idxF la) (idxF lb) xs) => who_list hr1 hr2 hux 3 rsB (fun u _ => kind_resized hr1 hr2 u))
  have HQ : Hid (Calls Try.prog 24 #[planA f1 m1 v1, planA f2 m2 v2, .func (.func 31) #[] #[]] w2 (RetL (listU 3 la lb) w2)) := Lib.hid (HW.out.mono fun e w9 ⟨xs, hux, h⟩ => by
    have e1 : whoT rsB (idxF la) (idxF lb) xs = listU 3 la lb := HE.out xs hux
    rw [e1] at h
    exact h)
  have hvf1 : ∃ A n c, v1 = .slice A n c := by obtain ⟨A, c, e, _⟩ := h1.form; exact ⟨A, _, c, e⟩
  have hvf2 : ∃ A n c, v2 = .slice A n c := by obtain ⟨A, c, e, _⟩ := h2.form; exact ⟨A, _, c, e⟩
  obtain ⟨vA1, vn1, vc1, rfl⟩ := hvf1
  obtain ⟨vA2, vn2, vc2, rfl⟩ := hvf2
  unfold planA at HQ ⊢
  obtain ⟨L, hL⟩ : ∃ L, listU 3 la lb = L := ⟨_, rfl⟩
  rw [hL] at HQ ⊢
  clear h1 h2 hL1 hL2 hr1 hr2 hb1 hb2 hpb hqb hL
  clear HW HE
  go_enter Try.func14, Try.ntmps14
  go_wp2_with fail
  refine HQ.out.mono ?_
  rintro e w3 ⟨v, rfl, hint, hb3⟩
  have HINT := Lib.hid hint
  have HB3 := Lib.hid (HB2.out.trans (hb3.mono HB2.out.size))
  clear hint hb3
  go_wp2_with fail
  go_ret
  exact ⟨_, rfl, HINT.out, HB3.out⟩

set_option maxRecDepth 100000 in
set_option maxHeartbeats 4000000 in
theorem diffGone_any (f1 f2 : Int) (m1 m2 : Nat) (v1 v2 : Value) (la lb : List Pl) (w : World) (h1 : PlsAt w v1 la) (h2 : PlsAt w v2 lb) (hL1 : LightL la) (hL2 : LightL lb) (hr1 : Right f1 m1 la) (hr2 : Right f2 m2 lb) :
    Calls Try.prog 13 #[planA f1 m1 v1, planA f2 m2 v2] w (RetLB (listU 2 la lb) w) := by
  obtain ⟨w1, P, hw1, hP, hPl, hb1, hpb⟩ := box_any w #[.int .i64 f1, .int .u32 m1, v1] 25
  obtain ⟨w2, Q, hw2, hQ, hQl, hb2, hqb⟩ := box_any w1 #[.int .i64 f2, .int .u32 m2, v2] 25
  have HB2 := Lib.hid (hb1.trans (hb2.mono hb1.size))
  obtain ⟨r0, r1, r2⟩ := three_heads (keep_block hpb hb2)
  obtain ⟨q0, q1, q2⟩ := three_heads hqb
  have HQ := Lib.hid (diffCame_any f2 f1 m2 m1 v2 v1 lb la w2 (h2.keep HB2.out) (h1.keep HB2.out) hL2 hL1 hr2 hr1)
  rw [listU_comm12 lb la] at HQ
  have hvf1 : ∃ A n c, v1 = .slice A n c := by obtain ⟨A, c, e, _⟩ := h1.form; exact ⟨A, _, c, e⟩
  have hvf2 : ∃ A n c, v2 = .slice A n c := by obtain ⟨A, c, e, _⟩ := h2.form; exact ⟨A, _, c, e⟩
  obtain ⟨vA1, vn1, vc1, rfl⟩ := hvf1
  obtain ⟨vA2, vn2, vc2, rfl⟩ := hvf2
  unfold planA at HQ ⊢
  obtain ⟨L, hL⟩ : ∃ L, listU 2 la lb = L := ⟨_, rfl⟩
  rw [hL] at HQ ⊢
  clear h1 h2 hL1 hL2 hr1 hr2 hb1 hb2 hpb hqb hL
  skip
  go_enter Try.func13, Try.ntmps13
  go_wp2_with fail
  refine HQ.out.mono ?_
  rintro e w3 ⟨v, rfl, hint, hb3⟩
  have HINT := Lib.hid hint
  have HB3 := Lib.hid (HB2.out.trans (hb3.mono HB2.out.size))
  clear hint hb3
  go_wp2_with fail
  go_ret
  exact ⟨_, rfl, HINT.out, HB3.out⟩
end Go.Proofs.Ytincbilobmhgeaa

/-
  slices.Concat of two rows of pieces.
  Conditions: none beyond what the slices read as.
-/
set_option linter.unusedVariables false
set_option linter.unusedSimpArgs false
namespace Go.Proofs.Ytincbilobmhgeaa
open Go.RowKit

/-- Nothing is appended to a row of the call's own: from a nil slice, whatever it says of its room. -/
theorem wpList_append_none5 {P : Program} {w : World} {ops : Array Oper} {rest : List Oper} {o : Oper} {a : Act} {Q : Exit → Act → World → Prop} (hgd : o.guard = none) (s x : Operand) (t : TypeId)
    (ho : o.op = .call { callee := .builtin .append, args := #[s, x], argTypes := #[t, t] })
    (base : Nat) (e : TypeId) (i : TypeInfo) (size : Nat) (ht : P.underlying t = some (.slice e)) (hi : P.info? e = some i)
    (v : Value) (n : Nat) (xs : List Value) (hs : a.eval s = v) (hown : w.ownsRow base e size v n xs) (c : Nat) (hx : a.eval x = .slice none 0 c)
    (h : wpList P ops Q rest (a.put o.dst v) w) : wpList P ops Q (o :: rest) a w := by
  refine wpList_plain hgd fun K hK => ?_
  have hrun : (Builtin.append_ #[t, t] o.type #[v, .slice none 0 c]).run P w = .ok v w := by
    rcases hown.2 with ⟨rfl, rfl⟩ | ⟨g, cap, cur, rfl, _, _, hnc, _⟩
    · simp [Builtin.append_, run_underlying ht, sizeOf, typeInfo, hi, Builtin.lenOf, Builtin.firstCells]
    · simp [Builtin.append_, run_underlying ht, sizeOf, typeInfo, hi, Builtin.lenOf, Builtin.firstCells, hnc, storeCells]
  unfold Oper.wp
  simp [execOp, ho, resolve, invoke, builtin, hs, hx, hrun, Result.andThen]
  exact hK _ _ h

/-- A row of pieces of the call's own, from 'base' on. -/
def RetOP (base : Nat) (ps : List Pc) (w : World) (e : Ending) (w' : World) : Prop := ∃ v, e = .returned v ∧ w'.ownsRow base 56 2 v ps.length (pcsCells ps) ∧ Below base w w'
theorem pcsCells_append (a b : List Pc) : pcsCells (a ++ b) = pcsCells a ++ pcsCells b := by simp [pcsCells]
set_option maxRecDepth 100000 in
set_option maxHeartbeats 4000000 in
/-- slices.Grow of a nil slice. -/
theorem growPc_any (n : Nat) (hn : n ≤ 200000) (w : World) : Calls Try.prog 61 #[.slice none 0 0, .int .i64 n] w (RetOP w.heap.size [] w) := by
  obtain ⟨i0, hi, hz0, hz1, hz2⟩ := info_parts Try.infoPc
  rcases Nat.eq_zero_or_pos n with h | h
  · subst h
    go_enter Try.func61, Try.ntmps61
    go_wp2_with fail
    go_ret
    exact ⟨_, rfl, World.ownsRow_nil _ _ _ _, Below.refl _ _⟩
  · have h1 : ¬ ((n : Int) < 0) := by omega
    have h3 : wrap64 (n : Int) = (n : Int) := wrap64_small (by omega) (by omega)
    have h4 : (n : Int) > 0 := by omega
    have hold : (Builtin.firstCells i0.size 0 (.slice none 0 0)).run Try.prog w.drew = .ok (([] : List Value).toArray) w.drew := run_firstCells_none w.drew i0.size 0 0 0
    have hrz : ∀ ty, (Builtin.append_ #[35, 3] ty #[.slice none 0 0, .int .i64 n]).run Try.prog w =
        .ok (.slice (some ⟨w.heap.size, 0, none⟩) n (grownCap w n 0 56)) (w.drew.alloc (.cells (([] : List Value).toArray ++ Builtin.zeroCells (Value.agg #[.int .i64 0, .int .u64 0]).cells n ++ Builtin.zeroCells (Value.agg #[.int .i64 0, .int .u64 0]).cells (grownCap w n 0 56 - n)) 56)) := fun ty => by
      have h := Lib.run_append_grow_zeros w 35 3 ty 56 i0 _ .i64 .i64 Try.underlying35 Try.underlying3 hi hz0 none 0 0 ([] : List Value) hold n (by omega) (by rw [hz1]; decide) (by omega) (by omega) (by rw [hz2]; omega) (by
        rw [Nat.zero_add]
        exact growslice_fits (by omega) (by rw [hz2]; omega))
      rw [Nat.zero_add] at h
      exact h
    have hcap := grownCap_ge w n 0 56
    have hcm := grownCap_le_maxLen w n 0 56 (by unfold maxLen; omega)
    obtain ⟨G, hG⟩ : ∃ G, grownCap w n 0 56 = G := ⟨_, rfl⟩
    rw [hG] at hrz hcap hcm
    have HR : Hid (∀ (G : Nat), n ≤ G → G ≤ maxLen → (w.drew.alloc (.cells (([] : List Value).toArray ++ Builtin.zeroCells (Value.agg #[.int .i64 0, .int .u64 0]).cells n ++ Builtin.zeroCells (Value.agg #[.int .i64 0, .int .u64 0]).cells (G - n)) 56)).ownsRow w.heap.size 56 2 (.slice (some ⟨w.heap.size, 0, none⟩) 0 G) ([] : List Pc).length (pcsCells [])) := Lib.hid (fun G hg hm => by
      refine World.ownsRow_made (w := w.drew) _ _ (Nat.le_refl _) hm ?_
      simp only [Array.size_append, Builtin.zeroCells, Array.size_map, Array.size_range]
      show 0 + n * 2 + (G - n) * 2 = G * 2
      omega)
    have HRG := Lib.hid (HR.out G hcap hcm)
    have HG63 : Hid (G ≤ 9223372036854775807) := Lib.hid (by unfold maxLen at hcm; omega)
    have hg63 : G ≤ 9223372036854775807 := HG63.out
    obtain ⟨w2, hw2⟩ : ∃ w2, (w.drew.alloc (.cells (([] : List Value).toArray ++ Builtin.zeroCells (Value.agg #[.int .i64 0, .int .u64 0]).cells n ++ Builtin.zeroCells (Value.agg #[.int .i64 0, .int .u64 0]).cells (G - n)) 56)) = w2 := ⟨_, rfl⟩
    have HB2 : Hid (Below w.heap.size w w2) := Lib.hid (by rw [← hw2]; exact ((Below.refl _ w).drew).alloc (Nat.le_refl _) _)
    rw [hw2] at hrz HRG
    clear hw2 hG HR hold hi hz0 hz1 hz2
    go_enter Try.func61, Try.ntmps61
    go_wp2_with (at_builtin; refine Lib.wpList_append_run _ rfl _ _ _ _ rfl _ _ rfl rfl _ _ (hrz _) ?_)
    go_ret
    exact ⟨_, rfl, HRG.out, HB2.out⟩

def catP (a b : List Pc) : Nat → List Pc
  | 0 => []
  | 1 => a
  | _ => a ++ b
def CatRelP (a b : List Pc) (wr : World) (g : Nat) (s6 s27 : Value) (w2 : World) : Prop :=
  ∃ i : Nat, i ≤ 2 ∧ g = 2 - i ∧ s27 = .int .i64 i ∧ Below wr.heap.size wr w2 ∧ w2.ownsRow wr.heap.size 56 2 s6 (catP a b i).length (pcsCells (catP a b i))
/-- The cells of a slice that reads as pieces, in a later world. -/
theorem newsP_of {W W2 : World} {p : Addr} {n c : Nat} {ps : List Pc} (h : PcsAt W (.slice (some p) n c) ps) (hb : Below W.heap.size W W2) : ∀ j u, (pcsCells ps)[j]? = some u → W2.cell? (p.add j) = some u := by
  intro j u hj
  obtain ⟨A, c', h1, h2, h3, h4⟩ := h.keep hb
  injection h1 with e1 e2 e3
  have hp : 0 < ps.length := by
    have := (List.getElem?_eq_some_iff.1 hj).1
    rw [pcsCells_length] at this; omega
  obtain ⟨b, off, e, hlt, _, hc⟩ := h4 hp
  rw [e] at e1
  cases e1
  rw [Addr.add_lit]
  exact pcsCells_of ps hc j u hj
theorem pcs_empty {W : World} {n c : Nat} {ps : List Pc} (h : PcsAt W (.slice none n c) ps) : n = 0 ∧ ps = [] := by
  obtain ⟨A, c', h1, h2, h3, h4⟩ := h
  injection h1 with e1 e2 e3
  subst e1 e2
  rcases Nat.eq_zero_or_pos ps.length with h | h
  · exact ⟨h, List.eq_nil_of_length_eq_zero h⟩
  · obtain ⟨b, off, e, _⟩ := h4 h; cases e

set_option maxRecDepth 100000 in
set_option maxHeartbeats 4000000 in
theorem concatP_any (x y : Value) (a b : List Pc) (B : Nat) (w : World) (hx : PcsAt w x a) (hy : PcsAt w y b) (hB : B < w.heap.size) (c0 : w.cell? ⟨B, 0, none⟩ = some x) (c1 : w.cell? ⟨B, 1, none⟩ = some y) (hl : a.length + b.length ≤ 100000) :
    Calls Try.prog 50 #[.slice (some ⟨B, 0, none⟩) 2 2] w (RetPcs (a ++ b) w) := by
  obtain ⟨i0, hi, hz0, hz1, hz2⟩ := info_parts Try.infoPc
  have HX := Lib.hid hx
  have HY := Lib.hid hy
  obtain ⟨A1, k1, rfl, a1, a2, a4⟩ := hx
  obtain ⟨A2, k2, rfl, b1, b2, b4⟩ := hy
  have HA := Lib.hid a4
  have HB := Lib.hid b4
  generalize hna : a.length = m at *
  generalize hnb : b.length = n at *
  have HNA := Lib.hid hna
  have HNB := Lib.hid hnb
  have HG := Lib.hid (fun W => growPc_any (m + n) (by omega) W)
  clear a4 b4 hna hnb
  go_enter Try.func50, Try.ntmps50
  go_wp2_with fail
  go_loopg [3, 5, 11] 2 (fun g s3 _ s11 wr => wr = w ∧ ((g = 2 ∧ s11 = .int .i64 0 ∧ s3 = .int .i64 0) ∨ (g = 1 ∧ s11 = .int .i64 1 ∧ s3 = .int .i64 m) ∨ (g = 0 ∧ s11 = .int .i64 2 ∧ s3 = .int .i64 ((m + n : Nat) : Int))))
  case atStart => exact ⟨rfl, .inl ⟨rfl, rfl, rfl⟩⟩
  case round =>
    obtain ⟨hw, h | h | h⟩ := hrel
    · obtain ⟨rfl, rfl, rfl⟩ := h
      subst hw
      go_wp2_with fail
      go_roundg 1
      case measure => decide
      case rel => exact ⟨rfl, .inr (.inl ⟨rfl, rfl, by go_num⟩)⟩
    · obtain ⟨rfl, rfl, rfl⟩ := h
      subst hw
      go_wp2_with fail
      go_roundg 0
      case measure => decide
      case rel => exact ⟨rfl, .inr (.inr ⟨rfl, rfl, by go_num⟩)⟩
    · obtain ⟨rfl, rfl, rfl⟩ := h
      have hw2 := hw.symm
      subst hw2
      clear hw
      generalize hq : m + n = q at *
      go_wp2_with fail
      refine (HG.out _).mono ?_
      rintro e w1 ⟨v1, rfl, hown, hb⟩
      have HB1 := Lib.hid hb
      have HO1 := Lib.hid hown
      have hw1 := hb.size
      have c0' := (hb.cell (p := ⟨B, 0, none⟩) hB).trans c0
      have c1' := (hb.cell (p := ⟨B, 1, none⟩) hB).trans c1
      clear hb hown
      go_wp2_with fail
      go_loopg [6, 8, 27] 2 (fun g s6 _ s27 wr => CatRelP a b w g s6 s27 wr)
      case atStart => exact ⟨0, by decide, rfl, rfl, HB1.out, HO1.out⟩
      case round =>
        obtain ⟨i, hi2, hg, rfl, hb2, hown2⟩ := hrel
        have HB2 := Lib.hid hb2
        have HO2 := Lib.hid hown2
        have e0 := (hb2.cell (p := ⟨B, 0, none⟩) hB).trans c0
        have e1 := (hb2.cell (p := ⟨B, 1, none⟩) hB).trans c1
        clear hb2 hown2 c0' c1'
        rcases (by omega : i = 0 ∨ i = 1 ∨ i = 2) with rfl | rfl | rfl
        · have HLC := Lib.hid (show (catP a b 0).length + m ≤ 100000 by simp [catP]; omega)
          subst hg
          cases A1 with
          | none =>
            obtain ⟨rfl, hnil⟩ := pcs_empty HX.out
            go_wp2_with (at_builtin; refine wpList_append_none5 rfl _ _ 35 rfl w.heap.size 56 i0 2 Try.underlying35 hi _ _ _ rfl HO2.out k1 rfl ?_)
            go_roundg 1
            case measure => decide
            case rel =>
              refine ⟨1, by decide, rfl, rfl, HB2.out, ?_⟩
              have h := HO2.out
              have e : catP a b 1 = catP a b 0 := by subst hnil; simp [catP]
              rw [e]
              exact h
          | some p =>
            have HNW := Lib.hid (newsP_of HX.out HB2.out)
            have HLN := Lib.hid (pcsCells_length a)
            go_wp2_with (at_builtin; refine wpList_append_own _ rfl _ _ 35 rfl w.heap.size 56 i0 (.agg #[.int .i64 0, .int .u64 0]) 2 16 Try.underlying35 hi hz0 hz1 hz2 rfl (by decide) _ _ _ rfl HO2.out p m k1 (pcsCells a) rfl ?c0 HNW.out (pcsCells_one _) ?c3 ?c4 ?c5 ?_)
            case c0 => rw [HLN.out, HNA.out]
            case c3 => have := HLC.out; unfold maxLen; omega
            case c4 => have := HLC.out; omega
            case c5 => exact HB2.out.size
            intro v4 w4 hown4 hgrow _
            have HB4 := Lib.hid (HB2.out.trans (below_grown5 hgrow HB2.out.size (own_base5 HO2.out)))
            have HO4 := Lib.hid hown4
            clear hown4 hgrow
            go_wp2
            go_roundg 1
            case measure => decide
            case rel =>
              refine ⟨1, by decide, rfl, by go_num, HB4.out, ?_⟩
              have h := HO4.out
              have e : catP a b 1 = catP a b 0 ++ a := by simp [catP]
              rw [e, pcsCells_append, List.length_append, HNA.out]
              exact h
        · have HLC := Lib.hid (show (catP a b 1).length + n ≤ 100000 by simp only [catP]; rw [HNA.out]; omega)
          subst hg
          cases A2 with
          | none =>
            obtain ⟨rfl, hnil⟩ := pcs_empty HY.out
            go_wp2_with (at_builtin; refine wpList_append_none5 rfl _ _ 35 rfl w.heap.size 56 i0 2 Try.underlying35 hi _ _ _ rfl HO2.out k2 rfl ?_)
            go_roundg 0
            case measure => decide
            case rel =>
              refine ⟨2, by decide, rfl, rfl, HB2.out, ?_⟩
              have h := HO2.out
              have e : catP a b 2 = catP a b 1 := by subst hnil; simp [catP]
              rw [e]
              exact h
          | some p =>
            have HNW := Lib.hid (newsP_of HY.out HB2.out)
            have HLN := Lib.hid (pcsCells_length b)
            go_wp2_with (at_builtin; refine wpList_append_own _ rfl _ _ 35 rfl w.heap.size 56 i0 (.agg #[.int .i64 0, .int .u64 0]) 2 16 Try.underlying35 hi hz0 hz1 hz2 rfl (by decide) _ _ _ rfl HO2.out p n k2 (pcsCells b) rfl ?c0 HNW.out (pcsCells_one _) ?c3 ?c4 ?c5 ?_)
            case c0 => rw [HLN.out, HNB.out]
            case c3 => have := HLC.out; unfold maxLen; omega
            case c4 => have := HLC.out; omega
            case c5 => exact HB2.out.size
            intro v4 w4 hown4 hgrow _
            have HB4 := Lib.hid (HB2.out.trans (below_grown5 hgrow HB2.out.size (own_base5 HO2.out)))
            have HO4 := Lib.hid hown4
            clear hown4 hgrow
            go_wp2
            go_roundg 0
            case measure => decide
            case rel =>
              refine ⟨2, by decide, rfl, by go_num, HB4.out, ?_⟩
              have h := HO4.out
              have e : catP a b 2 = catP a b 1 ++ b := by simp [catP]
              rw [e, pcsCells_append, List.length_append, HNB.out]
              exact h
        · have HF := Lib.hid (pcs_of_own HO2.out)
          go_wp2
          go_ret
          exact ⟨_, rfl, HF.out, HB2.out⟩
end Go.Proofs.Ytincbilobmhgeaa
