/-
  The document's list of all ends, rising.
  Conditions: none beyond what the slices read as.
-/
import Derived.Test.YtkldinppmnjmbaaWith
set_option linter.unusedVariables false
namespace Go.Proofs.Ytkldinppmnjmbaa
open Go.RowKit

def addEnds (E : List Int) (s : Sp) : List Int := withT (withT E s.1) s.2
def endsT (a b : List Sp) : List Int := b.foldl addEnds (a.foldl addEnds [])
theorem addEnds_length (E : List Int) (s : Sp) : (addEnds E s).length ≤ E.length + 2 := by
  have h1 := withT_length E s.1
  have h2 := withT_length (withT E s.1) s.2
  unfold addEnds
  omega
theorem foldEnds_length : ∀ (l : List Sp) (E : List Int), (l.foldl addEnds E).length ≤ E.length + l.length * 2
  | [], E => by simp
  | s :: r, E => by
    have h1 := foldEnds_length r (addEnds E s)
    have h2 := addEnds_length E s
    simp only [List.foldl_cons, List.length_cons]
    omega
theorem foldEnds_take {l : List Sp} {E : List Int} {i : Nat} {y : Sp} (h : l[i]? = some y) : (l.take (i + 1)).foldl addEnds E = addEnds ((l.take i).foldl addEnds E) y := by
  rw [List.take_add_one, h]
  simp
theorem foldEnds_rises : ∀ (l : List Sp) (E : List Int), E.Pairwise (· < ·) → (l.foldl addEnds E).Pairwise (· < ·)
  | [], E, h => h
  | s :: r, E, h => foldEnds_rises r _ (withT_rises _ _ (withT_rises _ _ h))
theorem mem_foldEnds : ∀ (l : List Sp) (E : List Int) (x : Int), x ∈ l.foldl addEnds E ↔ x ∈ E ∨ ∃ s ∈ l, x = s.1 ∨ x = s.2
  | [], E, x => by simp
  | s :: r, E, x => by
    rw [List.foldl_cons, mem_foldEnds r, addEnds, mem_withT, mem_withT]
    simp only [List.mem_cons, exists_eq_or_imp]
    constructor
    · rintro (((h | h) | h) | h)
      · exact .inl h
      · exact .inr (.inl (.inl h))
      · exact .inr (.inl (.inr h))
      · exact .inr (.inr h)
    · rintro (h | (h | h) | h)
      · exact .inl (.inl (.inl h))
      · exact .inl (.inl (.inr h))
      · exact .inl (.inr h)
      · exact .inr h
theorem endsT_length (a b : List Sp) : (endsT a b).length ≤ (a.length + b.length) * 2 := by
  have h1 := foldEnds_length a []
  have h2 := foldEnds_length b (a.foldl addEnds [])
  unfold endsT
  simp at h1
  omega
theorem endsT_rises (a b : List Sp) : (endsT a b).Pairwise (· < ·) := foldEnds_rises b _ (foldEnds_rises a _ List.Pairwise.nil)
theorem mem_endsT (a b : List Sp) (x : Int) : x ∈ endsT a b ↔ (∃ s ∈ a, x = s.1 ∨ x = s.2) ∨ ∃ s ∈ b, x = s.1 ∨ x = s.2 := by
  unfold endsT
  rw [mem_foldEnds, mem_foldEnds]
  simp

def EndsRel (l : List Sp) (E0 : List Int) (w : World) (g : Nat) (s5 s6 : Value) (wr : World) : Prop :=
  ∃ i : Nat, i ≤ l.length ∧ g = l.length - i ∧ s6 = .int .i64 i ∧ IntsAt wr s5 ((l.take i).foldl addEnds E0) ∧ FromB w.heap.size s5 ∧ Below w.heap.size w wr

/-- What the region keeps. -/
def EndsKeep (w : World) (s : Value) (E : List Int) (W : World) : Prop := IntsAt W s E ∧ FromB w.heap.size s ∧ Below w.heap.size w W
theorem keep_ends {w W W' : World} {p1 p2 : Addr} {u1 u2 : Value} {s : Value} {E : List Int} (h : W.cell? p1 = some u1 ∧ W.cell? p2 = some u2 ∧ Hid (EndsKeep w s E W)) (hb : Below W.heap.size W W') :
    W'.cell? p1 = some u1 ∧ W'.cell? p2 = some u2 ∧ Hid (EndsKeep w s E W') :=
  ⟨(hb.cell (World.block_lt_of_cell? W _ h.1)).trans h.1, (hb.cell (World.block_lt_of_cell? W _ h.2.1)).trans h.2.1, h.2.2.out.1.keep hb, h.2.2.out.2.1, h.2.2.out.2.2.trans (hb.mono h.2.2.out.2.2.size)⟩
theorem kept_ints {w W : World} {s : Value} {E : List Int} {p q : Prop} (h : p ∧ q ∧ Hid (EndsKeep w s E W)) : IntsAt W s E := h.2.2.out.1

set_option maxRecDepth 100000 in
set_option maxHeartbeats 4000000 in
theorem ends_any (x y : Value) (a b : List Sp) (w : World) (hx : SpansAt w x a) (hy : SpansAt w y b) (hl : (a.length + b.length) * 2 ≤ 80000) :
    Calls Try.prog 29 #[x, y] w (RetI w.heap.size (endsT a b) w) := by
  obtain ⟨A1, k1, rfl, a1, a2, a3, a4⟩ := hx
  obtain ⟨A2, k2, rfl, b1, b2, b3, b4⟩ := hy
  have HA := Lib.hid a4
  have HBB := Lib.hid b4
  have HW := Lib.hid (fun (v : Value) (l : List Int) (x : Int) (W : World) (h : IntsAt W v l) (hf : FromB w.heap.size v) (hB : w.heap.size ≤ W.heap.size) (hl : l.length ≤ 90000) => with_any w.heap.size v l x W h hf hB hl)
  have HB0 := Lib.hid (show Below w.heap.size w (w.alloc (Obj.cells #[] 3)) from (Below.refl _ _).alloc (Nat.le_refl _) _)
  have HI0 : Hid (IntsAt (w.alloc (Obj.cells #[] 3)) (.slice (some ⟨w.heap.size, 0, none⟩) 0 0) []) :=
    ⟨_, _, _, rfl, Nat.le_refl _, by simp, by simp, by simp, fun j x h => by simp at h⟩
  have HF0 : Hid (FromB w.heap.size (.slice (some ⟨w.heap.size, 0, none⟩) 0 0)) := fun k hk => by cases hk; exact Nat.le_refl _
  have hla := foldEnds_length a []
  simp only [List.length_nil, Nat.zero_add] at hla
  clear a4 b4
  go_enter Try.func29, Try.ntmps29
  go_wp2_with fail
  go_loopg [5, 6] a.length (fun g s5 s6 wr => EndsRel a [] w g s5 s6 wr)
  case atStart => exact ⟨0, Nat.zero_le _, by omega, rfl, HI0.out, HF0.out, HB0.out⟩
  case round =>
    obtain ⟨i, hin, hgg, rfl, hints, hfb, hbw⟩ := hrel
    have HG := Lib.hid hgg
    by_cases hlt : i < a.length
    · have hltz : (i : Int) < (a.length : Int) := by omega
      obtain ⟨b, off, hA, hbl, hcell⟩ := HA.out (by omega)
      subst hA
      obtain ⟨q, hq⟩ := ex_at (xs := a) (k := i) hlt
      obtain ⟨c1, c2⟩ := (hcell i q hq).keep hbw hbl
      have HT := Lib.hid (foldEnds_take (E := []) hq)
      have hEl := foldEnds_length (a.take i) []
      have htl : (a.take i).length = i := by rw [List.length_take]; omega
      rw [htl] at hEl
      generalize (a.take i).foldl addEnds [] = E at *
      have hE1 := withT_length E q.1
      have HE : Hid (EndsKeep w u5 E wr.drew) := ⟨hints, hfb, hbw.drew⟩
      have hD : Hid (addEnds E q = withT (withT E q.1) q.2) := rfl
      simp only [List.length_nil, Nat.zero_add] at hEl
      have hE0 : E.length ≤ 90000 := by omega
      have hE2 : (withT E q.1).length ≤ 90000 := by omega
      obtain ⟨q1, q2⟩ := q
      simp only at c1 c2 hE2 hD
      clear hgg hints hfb hbw hcell hq hE1 htl
      obtain ⟨bb, oo, cc, hu5, _⟩ := HE.out.1
      subst hu5
      go_wp2_with fail
      go_region_held3 (fun w' => w'.cell? ⟨b, off + i * 2, none⟩ = some (.int .i64 q1) ∧ w'.cell? ⟨b, off + i * 2 + 1, none⟩ = some (.int .i64 q2) ∧ Hid (EndsKeep w (.slice (some ⟨bb, oo, none⟩) E.length cc) E w'))
        (first | exact ⟨c1, c2, HE⟩ | exact keep_ends (by assumption) (by assumption))
        (first
          | (go_at_call 38; (with_reducible refine (HW.out _ E q1 _ ?hI ?hF0 ?hS hE0).mono ?_); (case hI => exact kept_ints (by assumption)); (case hF0 => exact HE.out.2.1); (case hS => exact HE.out.2.2.size); rintro e w1 ⟨v1, rfl, hi1, hf1, hb1⟩)
          | (go_at_call 38; (with_reducible refine (HW.out _ (withT E q1) q2 _ ?hJ ?hF ?hS hE2).mono ?_); (case hJ => assumption); (case hF => assumption); (case hS => exact Nat.le_trans HE.out.2.2.size hb1.size); rintro e w2 ⟨v2, rfl, hi2, hf2, hb2⟩))
      have hb := hb1.trans (hb2.mono hb1.size)
      go_wp2
      go_roundg (a.length - (i + 1))
      case measure => have := HG.out; omega
      case rel =>
        refine ⟨i + 1, by omega, rfl, by go_num, ?_, hf2, HE.out.2.2.trans (hb.mono HE.out.2.2.size)⟩
        rw [HT.out, hD.out]
        exact hi2
    · have HF := Lib.hid (show IntsAt wr u5 (a.foldl addEnds []) by
        rw [List.take_of_length_le (by omega)] at hints
        exact hints)
      have HFB1 := Lib.hid hfb
      have HB1 := Lib.hid hbw
      have hltz : ¬ (i : Int) < (a.length : Int) := by omega
      have hw1 := hbw.size
      clear hgg hints hfb hbw
      obtain ⟨w1, hw⟩ : ∃ w1, w1 = wr := ⟨_, rfl⟩
      rw [← hw] at HF HB1 hw1 ⊢
      clear hw
      go_wp2_with fail
      go_loopg [5, 7] b.length (fun g s5 s7 wr => EndsRel b (a.foldl addEnds []) w g s5 s7 wr)
      case atStart => exact ⟨0, Nat.zero_le _, by omega, rfl, HF.out, HFB1.out, HB1.out⟩
      case round =>
        obtain ⟨i, hin, hgg, rfl, hints, hfb, hbw⟩ := hrel
        have HG := Lib.hid hgg
        by_cases hlt : i < b.length
        · have hltz : (i : Int) < (b.length : Int) := by omega
          obtain ⟨bl, off, hA, hbl, hcell⟩ := HBB.out (by omega)
          subst hA
          obtain ⟨q, hq⟩ := ex_at (xs := b) (k := i) hlt
          obtain ⟨c1, c2⟩ := (hcell i q hq).keep hbw hbl
          have HT := Lib.hid (foldEnds_take (E := a.foldl addEnds []) hq)
          have hEl := foldEnds_length (b.take i) (a.foldl addEnds [])
          have htl : (b.take i).length = i := by rw [List.length_take]; omega
          rw [htl] at hEl
          generalize (b.take i).foldl addEnds (a.foldl addEnds []) = E at *
          have hE1 := withT_length E q.1
          have HE : Hid (EndsKeep w u5 E wr.drew) := ⟨hints, hfb, hbw.drew⟩
          have hD : Hid (addEnds E q = withT (withT E q.1) q.2) := rfl
          have hE0 : E.length ≤ 90000 := by omega
          have hE2 : (withT E q.1).length ≤ 90000 := by omega
          obtain ⟨q1, q2⟩ := q
          simp only at c1 c2 hE2 hD
          clear hgg hints hfb hbw hcell hq hE1 htl
          obtain ⟨bb, oo, cc, hu5, _⟩ := HE.out.1
          subst hu5
          go_wp2_with fail
          go_region_held3 (fun w' => w'.cell? ⟨bl, off + i * 2, none⟩ = some (.int .i64 q1) ∧ w'.cell? ⟨bl, off + i * 2 + 1, none⟩ = some (.int .i64 q2) ∧ Hid (EndsKeep w (.slice (some ⟨bb, oo, none⟩) E.length cc) E w'))
            (first | exact ⟨c1, c2, HE⟩ | exact keep_ends (by assumption) (by assumption))
            (first
              | (go_at_call 38; (with_reducible refine (HW.out _ E q1 _ ?hI ?hF0 ?hS hE0).mono ?_); (case hI => exact kept_ints (by assumption)); (case hF0 => exact HE.out.2.1); (case hS => exact HE.out.2.2.size); rintro e w1 ⟨v1, rfl, hi1, hf1, hb1⟩)
              | (go_at_call 38; (with_reducible refine (HW.out _ (withT E q1) q2 _ ?hJ ?hF ?hS hE2).mono ?_); (case hJ => assumption); (case hF => assumption); (case hS => exact Nat.le_trans HE.out.2.2.size hb1.size); rintro e w2 ⟨v2, rfl, hi2, hf2, hb2⟩))
          have hb := hb1.trans (hb2.mono hb1.size)
          go_wp2
          go_roundg (b.length - (i + 1))
          case measure => have := HG.out; omega
          case rel =>
            refine ⟨i + 1, by omega, rfl, by go_num, ?_, hf2, HE.out.2.2.trans (hb.mono HE.out.2.2.size)⟩
            rw [HT.out, hD.out]
            exact hi2
        · have HF := Lib.hid (show IntsAt wr u5 (endsT a b) by
            rw [List.take_of_length_le (by omega)] at hints
            exact hints)
          have HFB2 := Lib.hid hfb
          have HB1 := Lib.hid hbw
          have hltz : ¬ (i : Int) < (b.length : Int) := by omega
          clear hgg hints hfb hbw
          go_wp2
          go_ret
          exact ⟨_, rfl, HF.out, HFB2.out, HB1.out⟩
end Go.Proofs.Ytkldinppmnjmbaa
