/-
  The law of a local behind any calls: LocalPlays.
  Conditions: the slices read as wants, as calls; the numbers are ints.
-/
import Derived.Test.YtngfcgegondmgaaKeeps
import Derived.Test.YtngfcgegondmgaaSame
import Derived.Deep.Cut
import Derived.Deep.CutRange
import Derived.Deep.CutBlock
set_option linter.unusedVariables false
set_option linter.unusedSimpArgs false
namespace Go.Proofs.Ytngfcgegondmgaa
open Go.RowKit

/-- Behind a call: the local, the document's, of the same state. -/
def MidRel (w : World) (rb X : Nat) (i : Nat) (wx : World) : Prop :=
  ∃ (l : List Lm) (vL vG : Value), Held w.heap.size wx rb l ∧ OkL i l ∧ RefOwn wx vL vG l ∧ wx.heap[X]? = some (.cells #[vL, vG] 32 (0, 0)) ∧ Below w.heap.size w wx
theorem MidRel.mono {w : World} {rb X i j : Nat} {wx : World} (h : MidRel w rb X i wx) (hij : i ≤ j) : MidRel w rb X j wx := by
  obtain ⟨l, vL, vG, h1, h2, h3⟩ := h
  exact ⟨l, vL, vG, h1, h2.mono hij, h3⟩
theorem keep_heap {W w' : World} {k T : Nat} {cs : Array Value} (h : W.heap[k]? = some (.cells cs T (0, 0))) (hk : Keeps W w') (h1 : T ≠ 62) (h2 : T ≠ 67) : w'.heap[k]? = some (.cells cs T (0, 0)) := (hk k cs T h h1 h2).trans h
theorem act_heads {w : World} {E : Nat} {a b c : Value} {t : Nat} (h : w.heap[E]? = some (.cells #[a, b, c] t (0, 0))) : w.cell? ⟨E, 0, none⟩ = some a ∧ w.cell? ⟨E, 1, none⟩ = some b ∧ w.cell? ⟨E, 2, none⟩ = some c ∧ w.frozen? ⟨E, 1, none⟩ = false := by
  refine ⟨?_, ?_, ?_, ?_⟩ <;> simp [World.cell?, World.frozen?, h]

theorem MidRel.other {w wx : World} {rb X i E : Nat} {cs : Array Value} (h : MidRel w rb X i wx) (hE : wx.heap[E]? = some (.cells cs 35 (0, 0))) (hX : X < E) (hb : w.heap.size ≤ E) (o : Nat) (u : Value) : MidRel w rb X i (wx.setCell ⟨E, o, none⟩ u) := by
  obtain ⟨l, vL, vG, ⟨mv, h1, h1'⟩, h2, h3, h4, h5⟩ := h
  refine ⟨l, vL, vG, ⟨mv, h1.keep fun k hf => Below.heap_setCell _ _ _ _ (show k ≠ E from fun e => h1.notFoot hE (by decide) (by decide) (e ▸ hf)), h1'⟩, h2, h3.set hE (by decide) (by decide) u, (Below.heap_setCell _ _ _ _ (show X ≠ E by omega)).trans h4, h5.setCell (p := ⟨E, o, none⟩) hb u⟩
theorem MidRel.below {w wx wy : World} {rb X i : Nat} (h : MidRel w rb X i wx) (hb : Below wx.heap.size wx wy) : MidRel w rb X i wy := by
  obtain ⟨l, vL, vG, h1, h2, h3, h4, h5⟩ := h
  exact ⟨l, vL, vG, h1.below hb, h2, h3.below hb, keep_block h4 hb, h5.trans (hb.mono h5.size)⟩
theorem MidRel.lt {w wx : World} {rb X i : Nat} (h : MidRel w rb X i wx) : X < wx.heap.size := by
  obtain ⟨l, vL, vG, h1, h2, h3, h4, h5⟩ := h
  exact heap_lt h4
/-- The document's local is stored into the variable. -/
def Two (w : World) (rb X : Nat) (l l2 : List Lm) (vL vG cL cG : Value) (wx : World) : Prop :=
  Held w.heap.size wx rb l ∧ RefOwn wx vL vG l2 ∧ wx.heap[X]? = some (.cells #[cL, cG] 32 (0, 0)) ∧ Below w.heap.size w wx
theorem Two.store {w wx : World} {rb X : Nat} {l l2 : List Lm} {vL vG cL cG : Value} (h : Two w rb X l l2 vL vG cL cG wx) (hX : w.heap.size ≤ X) : Two w rb X l l2 vL vG vL vG ((wx.setCell ⟨X, 0, none⟩ vL).setCell ⟨X, 1, none⟩ vG) := by
  obtain ⟨⟨mv, h1, h1'⟩, h3, h4, h5⟩ := h
  have k4 := heap_setCell_mem _ _ 0 _ _ _ vL h4
  have hn : ¬ Foot rb mv X := h1.notFoot h4 (by decide) (by decide)
  refine ⟨⟨mv, h1.keep fun k hf => ?_, h1'⟩, (h3.set (o := 0) h4 (by decide) (by decide) vL).set (o := 1) k4 (by decide) (by decide) vG, heap_setCell_mem _ _ _ _ _ _ _ k4, (h5.setCell (p := ⟨X, 0, none⟩) hX _).setCell (p := ⟨X, 1, none⟩) hX _⟩
  have hk : k ≠ X := fun e => hn (e ▸ hf)
  exact (Below.heap_setCell _ _ _ _ hk).trans (Below.heap_setCell _ _ _ _ hk)
theorem Two.below {w wx wy : World} {rb X : Nat} {l l2 : List Lm} {vL vG cL cG : Value} (h : Two w rb X l l2 vL vG cL cG wx) (hb : Below wx.heap.size wx wy) : Two w rb X l l2 vL vG cL cG wy :=
  ⟨h.1.below hb, h.2.1.below hb, keep_block h.2.2.1 hb, h.2.2.2.trans (hb.mono h.2.2.2.size)⟩
theorem Held.totalB {G base : Nat} {W : World} {rb : Nat} {l : List Lm} (h : Held base W rb l) (ho : OkL G l) : Calls Try.prog 21 #[.pointer (some ⟨rb, 0, none⟩)] W (RetB (.int .i64 (sumS l : Nat)) W) := by
  obtain ⟨mv, h1, _⟩ := h
  exact total_loc W rb mv l h1 ho
theorem Held.gotB {base : Nat} {W : World} {rb : Nat} {l : List Lm} (u : Int) (h : Held base W rb l) (hl : l.length ≤ 1000) : Calls Try.prog 22 #[.pointer (some ⟨rb, 0, none⟩), .int .i64 u] W (RetB (gotV (gotN l u)) W) := by
  obtain ⟨mv, h1, _⟩ := h
  exact got_any W rb mv l u h1 hl
/-- Behind a call's cut. -/
def ActRel (w : World) (rb X i E : Nat) (kind unit : Int) (wx : World) : Prop :=
  ∃ (OA : Option Addr) (oc on : Nat) (xs : List Int), on ≤ 40 ∧ xs.length = on ∧ IntsAt w (.slice OA on oc) xs ∧ wx.heap[E]? = some (.cells #[.int .i64 kind, .slice OA on oc, .int .i64 unit] 35 (0, 0)) ∧ MidRel w rb X i wx

set_option maxRecDepth 100000 in
set_option maxHeartbeats 8000000 in
theorem plays_law (f : Int) (v : Value) (ps : List Sp) (v2 : Value) (acts : List ActH) (ask : Int) (w : World) (h : ArgAt w v ps) (hi : IntsS ps) (ha : ActsAt w v2 acts) (hao : ∀ a ∈ acts, ActOk a) :
    Calls Try.prog 3 #[.int .i64 f, v, v2, .int .i64 ask] w (RetB (.bool true) w) := by
  have HAW := Lib.hid (fun W => awake_any W)
  obtain ⟨RA, rc, rfl, hrn63, hcells0, hints0⟩ := ha
  have HCEL := Lib.hid hcells0
  have HINT := Lib.hid hints0
  have HACT := Lib.hid hao
  obtain ⟨rn, hrn⟩ : ∃ rn, acts.length = rn := ⟨_, rfl⟩
  have HRN := Lib.hid hrn
  rw [hrn] at hrn63 HCEL ⊢
  have hrn64 : (rn : Int) ≤ 9223372036854775807 := by omega
  clear hrn hcells0 hints0 hao
  have harg := h
  obtain ⟨A, c, rfl, hc1, hc2, hnil, _⟩ := h
  have HS := Lib.hid (harg.cut 80 (by decide))
  have HI := Lib.hid (hi.take 80)
  have hm : min (ps.length : Int) 80 = ((min ps.length 80 : Nat) : Int) := by omega
  have hmle : min ps.length 80 ≤ ps.length := Nat.min_le_left _ _
  have hm80 : min ps.length 80 ≤ 80 := Nat.min_le_right _ _
  have HN : Hid ((ps.take 80).length = min ps.length 80) := by show _ = _; rw [List.length_take, Nat.min_comm]
  generalize ps.take 80 = qs at *
  generalize ps.length = n at *
  generalize min n 80 = m at *
  have hmc : (m : Int) ≤ (c : Int) := by omega
  have hm0 : (0 : Int) ≤ (m : Int) := by omega
  clear harg hi
  have HC := Lib.hid (fun (w' : World) (hb : Below w.heap.size w w') => refCheck15 f _ qs w' (HS.out.keep hb) HI.out)
  by_cases he : newE f qs = 0
  · have HE := Lib.hid he
    have HNW := Lib.hid (new_ok f _ qs w HS.out HI.out he)
    rw [he] at HC
    have HOK := Lib.hid (new_okL he)
    have HRI : Hid (∀ p ∈ qs, 0 ≤ p.1 ∧ 0 ≤ p.2) := fun p hp => by
      obtain ⟨h1, h2⟩ := newE_zero he
      obtain ⟨_, h4⟩ := chk_right h1
      have := h4.unit p hp
      have := h4.share p hp
      omega
    have HRN2 := Lib.hid (fun (w' : World) (hb : Below w.heap.size w w') => refNew_any w' _ qs (HS.out.keep hb) (by rw [HN.out]; omega) HRI.out)
    obtain ⟨L, hL⟩ : ∃ L, newT qs = L := ⟨_, rfl⟩
    rw [hL] at HNW HOK HRN2
    clear he hL
    go_enter Try.func3, Try.ntmps3
    go_wp2_with fail
    refine HNW.out.mono ?_
    rintro e w1 ⟨rb, rfl, hh, hb⟩
    have HB1 := Lib.hid hb
    have HH1 := Lib.hid hh
    clear hh hb
    go_wp2_with fail
    refine (HC.out _ HB1.out).mono ?_
    rintro e w2 ⟨rfl, hb⟩
    have HB2 := Lib.hid (HB1.out.trans (hb.mono HB1.out.size))
    have HH2 := Lib.hid (HH1.out.below hb)
    clear hb
    go_wp2_with fail
    refine (HRN2.out _ HB2.out).mono ?_
    rintro e w3 ⟨vL0, vG0, rfl, hr, hb⟩
    have HB3 := Lib.hid (HB2.out.trans (hb.mono HB2.out.size))
    have HH3 := Lib.hid (HH2.out.below hb)
    have HR3 := Lib.hid hr
    obtain ⟨A0, c0, hv0⟩ := own_form hr.ws
    obtain ⟨B0, d0, hv1⟩ := own_form hr.gs
    subst hv0 hv1
    clear hb hr
    obtain ⟨X, hX⟩ : ∃ X, w3.heap.size = X := ⟨_, rfl⟩
    obtain ⟨w4, hw4⟩ : ∃ w4, w3.alloc (.cells #[.slice A0 L.length c0, .slice B0 L.length d0] 32) = w4 := ⟨_, rfl⟩
    have hb4 : Below w3.heap.size w3 w4 := by rw [← hw4]; exact (Below.refl _ w3).alloc (Nat.le_refl _) _
    have HXB : Hid (w.heap.size ≤ X) := by rw [← hX]; exact HB3.out.size
    have HMID : Hid (MidRel w rb X 0 w4) := ⟨L, .slice A0 L.length c0, .slice B0 L.length d0, HH3.out.below hb4, HOK.out, HR3.out.below hb4, by rw [← hw4]; exact alloc_block w3 _ hX, HB3.out.trans (hb4.mono HB3.out.size)⟩
    obtain ⟨nL, hnL⟩ : ∃ nL, L.length = nL := ⟨_, rfl⟩
    rw [hnL] at hw4
    clear hb4
    obtain ⟨N, hNN⟩ : ∃ N, min rn 100 = N := ⟨_, rfl⟩
    have HNN := Lib.hid hNN
    go_wp2_with fail
    clear hw4 hX hnL hNN
    go_loopg [12] N (fun gg s wr => ∃ i, i ≤ N ∧ gg = N - i ∧ s = .int .i64 i ∧ MidRel w rb X i wr)
    case atStart => exact ⟨0, Nat.zero_le _, by omega, rfl, HMID.out⟩
    case round =>
      obtain ⟨i, hiN, hg, rfl, hmid⟩ := hrel
      have HG := Lib.hid hg
      have HM := Lib.hid hmid
      clear hg hmid HMID
      by_cases hlt : i < N
      · have y1 : (i : Int) < (rn : Int) := by have := HNN.out; omega
        have y2 : (i : Int) < 100 := by have := HNN.out; omega
        have y3 : (0 : Int) ≤ (i : Int) := by omega
        have hi100 : i < 100 := by omega
        have hBW : Below w.heap.size w wr := by obtain ⟨_, _, _, _, _, _, _, h5⟩ := HM.out; exact h5
        obtain ⟨ab, off, hA0, hbl, hcell⟩ := HCEL.out (by omega)
        subst hA0
        obtain ⟨a, ha⟩ : ∃ a, acts[i]? = some a := ⟨acts[i]'(by rw [HRN.out]; omega), List.getElem?_eq_getElem _⟩
        have hmem := List.mem_of_getElem? ha
        have hin := HINT.out a hmem
        obtain ⟨k0, k1, k2⟩ := hcell i a ha
        have c0 := (hBW.cell (p := ⟨ab, off + i * 3, none⟩) hbl).trans k0
        have c1 := (hBW.cell (p := ⟨ab, off + i * 3 + 1, none⟩) hbl).trans k1
        have c2 := (hBW.cell (p := ⟨ab, off + i * 3 + 2, none⟩) hbl).trans k2
        obtain ⟨kind, ⟨u, xs0⟩, unit⟩ := a
        simp only at hin c0 c1 c2
        obtain ⟨OA, oc, hu⟩ := hin.form
        subst hu
        obtain ⟨_, _, hu', hoc, hoc2, _⟩ := id hin
        injection hu' with e1 e2 e3; subst e3
        clear e1 e2 k0 k1 k2 hcell ha hmem
        obtain ⟨n0, hn0⟩ : ∃ n0, xs0.length = n0 := ⟨_, rfl⟩
        rw [hn0] at hin hoc c1
        have HIN := Lib.hid hin
        have HN0 := Lib.hid hn0
        clear hin hn0
        obtain ⟨E, hE⟩ : ∃ E, wr.heap.size = E := ⟨_, rfl⟩
        obtain ⟨w1, hw1⟩ : ∃ w1, wr.alloc (.cells #[.int .i64 kind, .slice OA n0 oc, .int .i64 unit] 35) = w1 := ⟨_, rfl⟩
        have hb1 : Below wr.heap.size wr w1 := by rw [← hw1]; exact (Below.refl _ wr).alloc (Nat.le_refl _) _
        have HHE : Hid (w1.heap[E]? = some (.cells #[.int .i64 kind, .slice OA n0 oc, .int .i64 unit] 35 (0, 0))) := by rw [← hw1]; exact alloc_block wr _ hE
        obtain ⟨a0, a1, a2, a3⟩ := act_heads HHE.out
        have HM1 := Lib.hid (HM.out.below hb1)
        have HXE : Hid (X < E ∧ w.heap.size ≤ E) := by rw [← hE]; exact ⟨HM.out.lt, hBW.size⟩
        clear hb1 hBW
        go_upto_if 76 with fail
        clear hE hw1 c0 c1 c2 hbl
        go_cut [] from 77 to 80 (fun wx => ActRel w rb X i E kind unit wx)
        case first =>
          by_cases h40 : 40 < n0
          · have z1 : (40 : Int) < (n0 : Int) := by omega
            have z2 : (40 : Int) ≤ (oc : Int) := by omega
            have z3 : (oc : Int) ≤ 9223372036854775807 := by omega
            go_wp2_with fail
            go_meet
            exact ⟨OA, oc, 40, xs0.take 40, Nat.le_refl _, by rw [List.length_take, HN0.out]; omega, HIN.out.cut (by omega), heap_setCell_mem _ _ _ _ _ _ _ HHE.out, HM1.out.other HHE.out HXE.out.1 HXE.out.2 _ _⟩
          · have z1 : ¬ (40 : Int) < (n0 : Int) := by omega
            go_wp2_with fail
            go_meet
            exact ⟨OA, oc, n0, xs0, by omega, HN0.out, HIN.out, HHE.out, HM1.out⟩
        case rest =>
          clear a0 a1 a2 a3 HHE HM1 HIN HN0 hoc hoc2 HM
          obtain ⟨OA, oc, on, xs, hon, hxl, hxs, hhe, hmid⟩ := hcut
          have HXS := Lib.hid hxs
          have HHE := Lib.hid hhe
          have HM := Lib.hid hmid
          have HXL := Lib.hid hxl
          obtain ⟨a0, a1, a2, a3⟩ := act_heads HHE.out
          clear hxs hhe hmid hxl
          go_upto_block 2 with fail
          go_cut [] from 83 to 132 (fun wx => MidRel w rb X (i + 1) wx)
          case first =>
            obtain ⟨l, vL, vG, hh, ho, hr, hx, hb⟩ := HM.out
            have HH := Lib.hid hh
            have HO := Lib.hid ho
            have HR := Lib.hid hr
            have HX := Lib.hid hx
            have HB := Lib.hid hb
            have HL64 := Lib.hid ho.len
            clear hh ho hr hx hb HM
            obtain ⟨x0, x1, x2, x3⟩ := two_heads HX.out
            by_cases k0 : kind = 0
            · subst k0
              as_aux_lemma =>
                have HP := Lib.hid (HH.out.pickK HO.out (by omega) (HXS.out.keep HB.out))
                obtain ⟨hu1, hu2⟩ := unit_pos HO.out (offB xs)
                obtain ⟨U, hU⟩ : ∃ U, unitO (nextT (offB xs) l) = U := ⟨_, rfl⟩
                obtain ⟨bb, hbb⟩ : ∃ bb, (nextT (offB xs) l).isSome = bb := ⟨_, rfl⟩
                have hpv : pickV (nextT (offB xs) l) = .tuple #[.int .i64 (U : Int), .bool bb] := by unfold pickV; rw [hU, hbb]
                rw [hpv] at HP
                rw [hU, hbb] at hu1
                have q1 : ((U : Int) != (U : Int)) = false := by simp
                have q2 : decide ((0 : Int) < (U : Int)) = bb := by rw [← hu1]; exact decide_eq_decide.2 (by omega)
                have q3 : (bb != bb) = false := by simp
                have HUU := Lib.hid hU
                obtain ⟨L2, hL2⟩ : ∃ L2, pickT (offB xs) l = L2 := ⟨_, rfl⟩
                have HO2 : Hid (OkL (i + 1) L2) := by rw [← hL2]; exact HO.out.pick _
                rw [hL2] at HP
                have HL2 := Lib.hid hL2
                clear hU hbb hpv hu2 hL2
                go_wp2_with fail
                refine HP.out.mono ?_
                rintro e w2 ⟨rfl, hh2, hb2, hk2⟩
                have hx2 := keep_heap HX.out hk2 (by decide) (by decide)
                have he2 := keep_heap HHE.out hk2 (by decide) (by decide)
                have hr2 := HR.out.keeps hk2
                have HX2 := Lib.hid hx2
                have HH2 := Lib.hid hh2
                have HB2 := Lib.hid (HB.out.trans hb2)
                clear a0 a1 a2 a3 x0 x1 x2 x3
                obtain ⟨x0, x1, x2, x3⟩ := two_heads hx2
                obtain ⟨a0, a1, a2, a3⟩ := act_heads he2
                have HRP := Lib.hid (refPick_any w2 vL vG l _ xs hr2 HO.out (by omega) (HXS.out.keep HB2.out))
                rw [HUU.out, HL2.out] at HRP
                clear hx2 he2 hr2 hh2 hb2 hk2
                go_wp2_with fail
                refine HRP.out.mono ?_
                rintro e w3 ⟨vL2, vG2, rfl, hr3, hb3⟩
                obtain ⟨A2, p2, hv2⟩ := own_form hr3.ws
                obtain ⟨B2, d2, hv3⟩ := own_form hr3.gs
                obtain ⟨nl2, hnl2⟩ : ∃ nl2, L2.length = nl2 := ⟨_, rfl⟩
                rw [hnl2] at hv2 hv3
                clear hnl2
                subst hv2 hv3
                have ht3 : Two w rb X L2 L2 (.slice A2 nl2 p2) (.slice B2 nl2 d2) vL vG w3 := ⟨HH2.out.below hb3, hr3, keep_block HX2.out hb3, HB2.out.trans (hb3.mono HB2.out.size)⟩
                obtain ⟨G, hG⟩ : ∃ G, w3.heap.size = G := ⟨_, rfl⟩
                obtain ⟨w4, hw4⟩ : ∃ w4, w3.alloc (.cells #[.slice A2 nl2 p2, .slice B2 nl2 d2] 32) = w4 := ⟨_, rfl⟩
                have hb4 : Below w3.heap.size w3 w4 := by rw [← hw4]; exact (Below.refl _ w3).alloc (Nat.le_refl _) _
                have hg4 : w4.heap[G]? = some (.cells #[.slice A2 nl2 p2, .slice B2 nl2 d2] 32 (0, 0)) := by rw [← hw4]; exact alloc_block w3 _ hG
                have ht4 := ht3.below hb4
                clear a0 a1 a2 a3 x0 x1 x2 x3
                obtain ⟨x0, x1, x2, x3⟩ := two_heads ht4.2.2.1
                obtain ⟨g0, g1, g2, g3⟩ := two_heads hg4
                have HT5 := Lib.hid (ht4.store HXB.out)
                clear hr3 hb3 ht3 hb4 hg4 ht4
                go_wp2_with fail
                go_meet
                exact ⟨L2, (.slice A2 nl2 p2), (.slice B2 nl2 d2), HT5.out.1, HO2.out, HT5.out.2.1, HT5.out.2.2.1, HT5.out.2.2.2⟩
            · by_cases k1 : kind = 1
              · subst k1
                as_aux_lemma =>
                  have HP := Lib.hid (HH.out.pickK HO.out (by omega) (HXS.out.keep HB.out))
                  obtain ⟨hu1, hu2⟩ := unit_pos HO.out (offB xs)
                  obtain ⟨U, hU⟩ : ∃ U, unitO (nextT (offB xs) l) = U := ⟨_, rfl⟩
                  obtain ⟨bb, hbb⟩ : ∃ bb, (nextT (offB xs) l).isSome = bb := ⟨_, rfl⟩
                  have hpv : pickV (nextT (offB xs) l) = .tuple #[.int .i64 (U : Int), .bool bb] := by unfold pickV; rw [hU, hbb]
                  rw [hpv] at HP
                  rw [hU, hbb] at hu1
                  have q1 : ((U : Int) != (U : Int)) = false := by simp
                  have q2 : decide ((0 : Int) < (U : Int)) = bb := by rw [← hu1]; exact decide_eq_decide.2 (by omega)
                  have q3 : (bb != bb) = false := by simp
                  have HUU := Lib.hid hU
                  obtain ⟨L2, hL2⟩ : ∃ L2, pickT (offB xs) l = L2 := ⟨_, rfl⟩
                  have HO2 : Hid (OkL (i + 1) L2) := by rw [← hL2]; exact HO.out.pick _
                  rw [hL2] at HP
                  have HL2 := Lib.hid hL2
                  clear hU hbb hpv hu2 hL2
                  go_wp2_with fail
                  refine HP.out.mono ?_
                  rintro e w2 ⟨rfl, hh2, hb2, hk2⟩
                  have hx2 := keep_heap HX.out hk2 (by decide) (by decide)
                  have he2 := keep_heap HHE.out hk2 (by decide) (by decide)
                  have hr2 := HR.out.keeps hk2
                  have HX2 := Lib.hid hx2
                  have HH2 := Lib.hid hh2
                  have HB2 := Lib.hid (HB.out.trans hb2)
                  clear a0 a1 a2 a3 x0 x1 x2 x3
                  obtain ⟨x0, x1, x2, x3⟩ := two_heads hx2
                  obtain ⟨a0, a1, a2, a3⟩ := act_heads he2
                  have HRP := Lib.hid (refPick_any w2 vL vG l _ xs hr2 HO.out (by omega) (HXS.out.keep HB2.out))
                  rw [HUU.out, HL2.out] at HRP
                  clear hx2 he2 hr2 hh2 hb2 hk2
                  go_wp2_with fail
                  refine HRP.out.mono ?_
                  rintro e w3 ⟨vL2, vG2, rfl, hr3, hb3⟩
                  obtain ⟨A2, p2, hv2⟩ := own_form hr3.ws
                  obtain ⟨B2, d2, hv3⟩ := own_form hr3.gs
                  obtain ⟨nl2, hnl2⟩ : ∃ nl2, L2.length = nl2 := ⟨_, rfl⟩
                  rw [hnl2] at hv2 hv3
                  clear hnl2
                  subst hv2 hv3
                  have ht3 : Two w rb X L2 L2 (.slice A2 nl2 p2) (.slice B2 nl2 d2) vL vG w3 := ⟨HH2.out.below hb3, hr3, keep_block HX2.out hb3, HB2.out.trans (hb3.mono HB2.out.size)⟩
                  obtain ⟨G, hG⟩ : ∃ G, w3.heap.size = G := ⟨_, rfl⟩
                  obtain ⟨w4, hw4⟩ : ∃ w4, w3.alloc (.cells #[.slice A2 nl2 p2, .slice B2 nl2 d2] 32) = w4 := ⟨_, rfl⟩
                  have hb4 : Below w3.heap.size w3 w4 := by rw [← hw4]; exact (Below.refl _ w3).alloc (Nat.le_refl _) _
                  have hg4 : w4.heap[G]? = some (.cells #[.slice A2 nl2 p2, .slice B2 nl2 d2] 32 (0, 0)) := by rw [← hw4]; exact alloc_block w3 _ hG
                  have ht4 := ht3.below hb4
                  clear a0 a1 a2 a3 x0 x1 x2 x3
                  obtain ⟨x0, x1, x2, x3⟩ := two_heads ht4.2.2.1
                  obtain ⟨g0, g1, g2, g3⟩ := two_heads hg4
                  have HT5 := Lib.hid (ht4.store HXB.out)
                  clear hr3 hb3 ht3 hb4 hg4 ht4
                  go_wp2_with fail
                  go_meet
                  exact ⟨L2, (.slice A2 nl2 p2), (.slice B2 nl2 d2), HT5.out.1, HO2.out, HT5.out.2.1, HT5.out.2.2.1, HT5.out.2.2.2⟩
              · by_cases k2 : kind = 2
                · subst k2
                  as_aux_lemma =>
                    have HP := Lib.hid (HH.out.pickK HO.out (by omega) (HXS.out.keep HB.out))
                    obtain ⟨hu1, hu2⟩ := unit_pos HO.out (offB xs)
                    obtain ⟨U, hU⟩ : ∃ U, unitO (nextT (offB xs) l) = U := ⟨_, rfl⟩
                    obtain ⟨bb, hbb⟩ : ∃ bb, (nextT (offB xs) l).isSome = bb := ⟨_, rfl⟩
                    have hpv : pickV (nextT (offB xs) l) = .tuple #[.int .i64 (U : Int), .bool bb] := by unfold pickV; rw [hU, hbb]
                    rw [hpv] at HP
                    rw [hU, hbb] at hu1
                    have q1 : ((U : Int) != (U : Int)) = false := by simp
                    have q2 : decide ((0 : Int) < (U : Int)) = bb := by rw [← hu1]; exact decide_eq_decide.2 (by omega)
                    have q3 : (bb != bb) = false := by simp
                    have HUU := Lib.hid hU
                    obtain ⟨L2, hL2⟩ : ∃ L2, pickT (offB xs) l = L2 := ⟨_, rfl⟩
                    have HO2 : Hid (OkL (i + 1) L2) := by rw [← hL2]; exact HO.out.pick _
                    rw [hL2] at HP
                    have HL2 := Lib.hid hL2
                    clear hU hbb hpv hu2 hL2
                    go_wp2_with fail
                    refine HP.out.mono ?_
                    rintro e w2 ⟨rfl, hh2, hb2, hk2⟩
                    have hx2 := keep_heap HX.out hk2 (by decide) (by decide)
                    have he2 := keep_heap HHE.out hk2 (by decide) (by decide)
                    have hr2 := HR.out.keeps hk2
                    have HX2 := Lib.hid hx2
                    have HH2 := Lib.hid hh2
                    have HB2 := Lib.hid (HB.out.trans hb2)
                    clear a0 a1 a2 a3 x0 x1 x2 x3
                    obtain ⟨x0, x1, x2, x3⟩ := two_heads hx2
                    obtain ⟨a0, a1, a2, a3⟩ := act_heads he2
                    have HRP := Lib.hid (refPick_any w2 vL vG l _ xs hr2 HO.out (by omega) (HXS.out.keep HB2.out))
                    rw [HUU.out, HL2.out] at HRP
                    clear hx2 he2 hr2 hh2 hb2 hk2
                    go_wp2_with fail
                    refine HRP.out.mono ?_
                    rintro e w3 ⟨vL2, vG2, rfl, hr3, hb3⟩
                    obtain ⟨A2, p2, hv2⟩ := own_form hr3.ws
                    obtain ⟨B2, d2, hv3⟩ := own_form hr3.gs
                    obtain ⟨nl2, hnl2⟩ : ∃ nl2, L2.length = nl2 := ⟨_, rfl⟩
                    rw [hnl2] at hv2 hv3
                    clear hnl2
                    subst hv2 hv3
                    have ht3 : Two w rb X L2 L2 (.slice A2 nl2 p2) (.slice B2 nl2 d2) vL vG w3 := ⟨HH2.out.below hb3, hr3, keep_block HX2.out hb3, HB2.out.trans (hb3.mono HB2.out.size)⟩
                    obtain ⟨G, hG⟩ : ∃ G, w3.heap.size = G := ⟨_, rfl⟩
                    obtain ⟨w4, hw4⟩ : ∃ w4, w3.alloc (.cells #[.slice A2 nl2 p2, .slice B2 nl2 d2] 32) = w4 := ⟨_, rfl⟩
                    have hb4 : Below w3.heap.size w3 w4 := by rw [← hw4]; exact (Below.refl _ w3).alloc (Nat.le_refl _) _
                    have hg4 : w4.heap[G]? = some (.cells #[.slice A2 nl2 p2, .slice B2 nl2 d2] 32 (0, 0)) := by rw [← hw4]; exact alloc_block w3 _ hG
                    have ht4 := ht3.below hb4
                    clear a0 a1 a2 a3 x0 x1 x2 x3
                    obtain ⟨x0, x1, x2, x3⟩ := two_heads ht4.2.2.1
                    obtain ⟨g0, g1, g2, g3⟩ := two_heads hg4
                    have HT5 := Lib.hid (ht4.store HXB.out)
                    clear hr3 hb3 ht3 hb4 hg4 ht4
                    go_wp2_with fail
                    go_meet
                    exact ⟨L2, (.slice A2 nl2 p2), (.slice B2 nl2 d2), HT5.out.1, HO2.out, HT5.out.2.1, HT5.out.2.2.1, HT5.out.2.2.2⟩
                · by_cases k3 : kind = 3
                  · subst k3
                    as_aux_lemma =>
                      have HP := Lib.hid (HH.out.beginK (by have := HL64.out; omega))
                      go_wp2_with fail
                      refine HP.out.mono ?_
                      rintro e w2 ⟨rfl, hh2, hb2, hk2⟩
                      have hx2 := keep_heap HX.out hk2 (by decide) (by decide)
                      have hr2 := HR.out.keeps hk2
                      have HX2 := Lib.hid hx2
                      have HH2 := Lib.hid hh2
                      have HB2 := Lib.hid (HB.out.trans hb2)
                      clear a0 a1 a2 a3 x0 x1 x2 x3
                      obtain ⟨x0, x1, x2, x3⟩ := two_heads hx2
                      have HRP := Lib.hid (refBegin_any w2 vL vG l hr2 (by have := HL64.out; omega))
                      clear hx2 hr2 hh2 hb2 hk2
                      go_wp2_with fail
                      refine HRP.out.mono ?_
                      rintro e w3 ⟨vL2, vG2, rfl, hr3, hb3⟩
                      obtain ⟨A2, p2, hv2⟩ := own_form hr3.ws
                      obtain ⟨B2, d2, hv3⟩ := own_form hr3.gs
                      obtain ⟨nl2, hnl2⟩ : ∃ nl2, (beginT l).length = nl2 := ⟨_, rfl⟩
                      rw [hnl2] at hv2 hv3
                      clear hnl2
                      subst hv2 hv3
                      have ht3 : Two w rb X (beginT l) (beginT l) (.slice A2 nl2 p2) (.slice B2 nl2 d2) vL vG w3 := ⟨HH2.out.below hb3, hr3, keep_block HX2.out hb3, HB2.out.trans (hb3.mono HB2.out.size)⟩
                      clear x0 x1 x2 x3
                      obtain ⟨x0, x1, x2, x3⟩ := two_heads ht3.2.2.1
                      have HT5 := Lib.hid (ht3.store HXB.out)
                      clear hr3 hb3 ht3
                      go_wp2_with fail
                      go_meet
                      exact ⟨beginT l, (.slice A2 nl2 p2), (.slice B2 nl2 d2), HT5.out.1, HO.out.begin_.mono (Nat.zero_le _), HT5.out.2.1, HT5.out.2.2.1, HT5.out.2.2.2⟩
                  · by_cases k4 : kind = 4
                    · subst k4
                      as_aux_lemma =>
                        have HRP := Lib.hid (refDrop_any wc vL vG l unit HR.out HO.out)
                        obtain ⟨bb, hbb⟩ : ∃ bb, (findT unit l).isSome = bb := ⟨_, rfl⟩
                        rw [hbb] at HRP
                        have HBB := Lib.hid hbb
                        have q3 : (bb != bb) = false := by simp
                        clear hbb
                        go_wp2_with fail
                        refine HRP.out.mono ?_
                        rintro e w3 ⟨vL2, vG2, rfl, hr3, hb3⟩
                        obtain ⟨A2, p2, hv2⟩ := own_form hr3.ws
                        obtain ⟨B2, d2, hv3⟩ := own_form hr3.gs
                        obtain ⟨nl2, hnl2⟩ : ∃ nl2, (dropT unit l).length = nl2 := ⟨_, rfl⟩
                        rw [hnl2] at hv2 hv3
                        clear hnl2
                        subst hv2 hv3
                        have ht3 : Two w rb X l (dropT unit l) (.slice A2 nl2 p2) (.slice B2 nl2 d2) vL vG w3 := ⟨HH.out.below hb3, hr3, keep_block HX.out hb3, HB.out.trans (hb3.mono HB.out.size)⟩
                        have he3 := keep_block HHE.out hb3
                        obtain ⟨G, hG⟩ : ∃ G, w3.heap.size = G := ⟨_, rfl⟩
                        obtain ⟨w4, hw4⟩ : ∃ w4, w3.alloc (.cells #[.slice A2 nl2 p2, .slice B2 nl2 d2] 32) = w4 := ⟨_, rfl⟩
                        have hb4 : Below w3.heap.size w3 w4 := by rw [← hw4]; exact (Below.refl _ w3).alloc (Nat.le_refl _) _
                        have hg4 : w4.heap[G]? = some (.cells #[.slice A2 nl2 p2, .slice B2 nl2 d2] 32 (0, 0)) := by rw [← hw4]; exact alloc_block w3 _ hG
                        have ht4 := ht3.below hb4
                        have he4 := keep_block he3 hb4
                        clear a0 a1 a2 a3 x0 x1 x2 x3
                        obtain ⟨x0, x1, x2, x3⟩ := two_heads ht4.2.2.1
                        obtain ⟨g0, g1, g2, g3⟩ := two_heads hg4
                        have ht5 := ht4.store HXB.out
                        have HT5 := Lib.hid ht5
                        have hEX : E ≠ X := by have := HXE.out.1; omega
                        have he5 := (Below.heap_setCell (w := w4.setCell ⟨X, 0, none⟩ (.slice A2 nl2 p2)) ⟨X, 1, none⟩ (.slice B2 nl2 d2) E hEX).trans ((Below.heap_setCell (w := w4) ⟨X, 0, none⟩ (.slice A2 nl2 p2) E hEX).trans he4)
                        have HP := Lib.hid (ht5.1.dropK unit HO.out)
                        rw [HBB.out] at HP
                        obtain ⟨w5, hw5⟩ : ∃ w5, (w4.setCell ⟨X, 0, none⟩ (.slice A2 nl2 p2)).setCell ⟨X, 1, none⟩ (.slice B2 nl2 d2) = w5 := ⟨_, rfl⟩
                        rw [hw5] at HT5 HP he5
                        obtain ⟨a0, a1, a2, a3⟩ := act_heads he5
                        clear hr3 hb3 ht3 hb4 hg4 ht4 he3 he4 he5 ht5 hEX
                        go_wp2_with fail
                        refine HP.out.mono ?_
                        rintro e w6 ⟨rfl, hh2, hb2, hk2⟩
                        have HX6 := Lib.hid (keep_heap HT5.out.2.2.1 hk2 (by decide) (by decide))
                        have HR6 := Lib.hid (HT5.out.2.1.keeps hk2)
                        have HH6 := Lib.hid hh2
                        have HB6 := Lib.hid (HT5.out.2.2.2.trans hb2)
                        clear hh2 hb2 hk2
                        go_wp2_with fail
                        go_meet
                        exact ⟨dropT unit l, (.slice A2 nl2 p2), (.slice B2 nl2 d2), HH6.out, (HO.out.drop_ unit).mono (Nat.le_succ i), HR6.out, HX6.out, HB6.out⟩
                    · as_aux_lemma =>
                        have z0 : (kind == 0) = false := by simp; exact k0
                        have z1 : (kind == 1) = false := by simp; exact k1
                        have z2 : (kind == 2) = false := by simp; exact k2
                        have z3 : (kind == 3) = false := by simp; exact k3
                        have z4 : (kind == 4) = false := by simp; exact k4
                        go_wp2_with fail
                        go_meet
                        exact ⟨l, vL, vG, HH.out, HO.out.mono (Nat.le_succ i), HR.out, HX.out, HB.out⟩
          case rest =>
            clear HM HHE a0 a1 a2 a3 HXS HXL
            obtain ⟨l, vL, vG, hh, ho, hr, hx, hb⟩ := hcut
            obtain ⟨A1, p1, hv0⟩ := own_form hr.ws
            obtain ⟨B1, d1, hv1⟩ := own_form hr.gs
            obtain ⟨nl, hnl⟩ : ∃ nl, l.length = nl := ⟨_, rfl⟩
            rw [hnl] at hv0 hv1
            subst hv0 hv1
            have HNL := Lib.hid hnl
            have HO := Lib.hid ho
            have hnl64 : nl ≤ 64 := by rw [← hnl]; exact ho.len
            have ht := refTotal_any _ (wantsT l) wc (hr.spans (by omega)) (ints_want ho)
            rw [totT_want l (by have := ho.full; omega)] at ht
            obtain ⟨S, hS⟩ : ∃ S, sumS l = S := ⟨_, rfl⟩
            have HT := Lib.hid (show Calls Try.prog _ _ _ (RetB (.tuple #[.int .i64 (sumS l : Nat), .bool true]) wc) from ht)
            have HS2 := Lib.hid hS
            rw [hS] at HT
            obtain ⟨x0, x1, _, _⟩ := two_heads hx
            have HH0 := Lib.hid hh
            have HR0 := Lib.hid hr
            have HX0 := Lib.hid hx
            have HB0 := Lib.hid hb
            clear hh ho hr hx hb ht hS hnl
            go_wp2_with fail
            refine HT.out.mono ?_
            rintro e wB ⟨rfl, hbB⟩
            have HH := Lib.hid (HH0.out.below hbB)
            have HR := Lib.hid (HR0.out.below hbB)
            have HX := Lib.hid (keep_block HX0.out hbB)
            have HB := Lib.hid (HB0.out.trans (hbB.mono HB0.out.size))
            clear hbB x0 x1 HT HH0 HR0 HX0 HB0
            have HDR : Hid (Below wB.heap.size wB wB.drew) := below_drewN (Below.refl _ _) 1
            have HXC : Hid (∀ w', Below wB.heap.size wB w' → w'.cell? ⟨X, 0, none⟩ = some (.slice A1 nl p1)) := fun w' hb => (two_heads (keep_block HX.out hb)).1
            have HWA : Hid (∀ w', Below wB.heap.size wB w' → Calls Try.prog 20 #[.pointer (some ⟨rb, 0, none⟩)] w' (fun e w2 => ∃ v, e = .returned v ∧ SpansAt w2 v (wantsT l) ∧ Held w.heap.size w2 rb l ∧ Below w'.heap.size w' w2)) := fun w' hb => (HH.out.below hb).wants (by rw [HNL.out]; omega)
            have HSP : Hid (∀ w', Below wB.heap.size wB w' → SpansAt w' (.slice A1 nl p1) (wantsT l)) := fun w' hb => (HR.out.below hb).spans (by rw [HNL.out]; omega)
            have HTA : Hid (∀ w', Below wB.heap.size wB w' → Calls Try.prog 21 #[.pointer (some ⟨rb, 0, none⟩)] w' (RetB (.int .i64 (S : Nat)) w')) := fun w' hb => by have := (HH.out.below hb).totalB HO.out; rw [HS2.out] at this; exact this
            have qS : ((S : Int) != (S : Int)) = false := by simp
            go_upto_region 32 with fail
            refine wp_region_N (S1 := fun w' => Below wB.heap.size wB w') (S2 := fun W => True) (N := fun i => i != 99) (by kernel_rfl) ?_
            change wpAnyN _ _ _ _ _ _ _ 12 (Array.replicate 12 false) _ _
            refine wpAnyN_take false (i := 0) (v := .pointer (some ⟨rb, 0, none⟩)) rfl (by kernel_rfl) (by kernel_rfl) (by kernel_rfl) (fun _ _ _ h => h) (.inl ⟨by kernel_rfl, fun W_ hS => ?_⟩) ⟨HDR.out, fun h => by cases h⟩ ?_
            · simp [execOp, Act.eval, Act.put, go_sem]
            try simp only [Act.put]
            try go_simp
            refine wpAnyN_take false (i := 2) (v := .pointer (some ⟨X, 0, none⟩)) rfl (by kernel_rfl) (by kernel_rfl) (by kernel_rfl) (fun _ _ _ h => h) (.inl ⟨by kernel_rfl, fun W_ hS => ?_⟩) ⟨HDR.out, fun h => by cases h⟩ ?_
            · simp [execOp, Act.eval, Act.put, go_sem]
            try simp only [Act.put]
            try go_simp
            refine wpAnyN_take false (i := 3) (v := .slice A1 nl p1) rfl (by kernel_rfl) (by kernel_rfl) (by kernel_rfl) (fun _ _ _ h => h) (.inl ⟨by kernel_rfl, fun W_ hS => ?_⟩) ⟨HDR.out, fun h => by cases h⟩ ?_
            · simp [execOp, Act.eval, Act.put, go_sem, HXC.out W_ hS.1]
            try simp only [Act.put]
            try go_simp
            refine wpAnyN_step (i := 1) (by kernel_rfl) rfl (by kernel_rfl) ?_
            intro K' hK
            try simp only [Act.put]
            go_simp
            refine (HWA.out _ HDR.out).mono ?_
            rintro e w6 ⟨v6, rfl, hsp6, _, hb6⟩
            have HB6 := Lib.hid (HDR.out.trans (hb6.mono HDR.out.size))
            have HSM := Lib.hid (same_any v6 _ _ w6 hsp6 (HSP.out w6 HB6.out))
            obtain ⟨A6, c6, hv6, _⟩ := id hsp6
            rw [wantsT_length, HNL.out] at hv6
            subst hv6
            clear hsp6 hb6
            refine hK.out _ _ HB6.out (fun _ _ => trivial) ?_
            refine wpAnyN_step (i := 4) (by kernel_rfl) rfl (by kernel_rfl) ?_
            intro K' hK
            try simp only [Act.put]
            go_simp
            refine HSM.out.mono ?_
            rintro e w7 ⟨rfl, hb7⟩
            have HB7 := Lib.hid (HB6.out.trans (hb7.mono HB6.out.size))
            clear hb7
            refine hK.out _ _ HB7.out (fun _ _ => trivial) ?_
            refine wpAnyN_take false (i := 5) (v := .bool false) rfl (by kernel_rfl) (by kernel_rfl) (by kernel_rfl) (fun _ _ _ h => h) (.inl ⟨by kernel_rfl, fun W_ hS => ?_⟩) ⟨HB7.out, fun h => by cases h⟩ ?_
            · simp [execOp, Act.eval, Act.put, go_sem]
            try simp only [Act.put]
            try go_simp
            refine wpAnyN_take false (i := 6) (v := .bool false) rfl (by kernel_rfl) (by kernel_rfl) (by kernel_rfl) (fun _ _ _ h => h) (.inl ⟨by kernel_rfl, fun W_ hS => ?_⟩) ⟨HB7.out, fun h => by cases h⟩ ?_
            · simp [execOp, Act.eval, Act.put, go_sem]
            try simp only [Act.put]
            try go_simp
            refine wpAnyN_take false (i := 7) (v := .pointer (some ⟨rb, 0, none⟩)) rfl (by kernel_rfl) (by kernel_rfl) (by kernel_rfl) (fun _ _ _ h => h) (.inl ⟨by kernel_rfl, fun W_ hS => ?_⟩) ⟨HB7.out, fun h => by cases h⟩ ?_
            · simp [execOp, Act.eval, Act.put, go_sem]
            try simp only [Act.put]
            try go_simp
            refine wpAnyN_take false (i := 9) (v := .int .i64 S) rfl (by kernel_rfl) (by kernel_rfl) (by kernel_rfl) (fun _ _ _ h => h) (.inl ⟨by kernel_rfl, fun W_ hS => ?_⟩) ⟨HB7.out, fun h => by cases h⟩ ?_
            · simp [execOp, Act.eval, Act.put, go_sem]
            try simp only [Act.put]
            try go_simp
            refine wpAnyN_step (i := 8) (by kernel_rfl) rfl (by kernel_rfl) ?_
            intro K' hK
            try simp only [Act.put]
            go_simp
            refine (HTA.out _ HB7.out).mono ?_
            rintro e w8 ⟨rfl, hb8⟩
            have HB8 := Lib.hid (HB7.out.trans (hb8.mono HB7.out.size))
            clear hb8
            refine hK.out _ _ HB8.out (fun _ _ => trivial) ?_
            refine wpAnyN_take false (i := 10) (v := .bool false) rfl (by kernel_rfl) (by kernel_rfl) (by kernel_rfl) (fun _ _ _ h => h) (.inl ⟨by kernel_rfl, fun W_ hS => ?_⟩) ⟨HB8.out, fun h => by cases h⟩ ?_
            · simp [execOp, Act.eval, Act.put, go_sem, qS]
            try simp only [Act.put]
            try go_simp
            refine wpAnyN_take false (i := 11) (v := .bool false) rfl (by kernel_rfl) (by kernel_rfl) (by kernel_rfl) (fun _ _ _ h => h) (.inl ⟨by kernel_rfl, fun W_ hS => ?_⟩) ⟨HB8.out, fun h => by cases h⟩ ?_
            · simp [execOp, Act.eval, Act.put, go_sem]
            try simp only [Act.put]
            try go_simp
            refine wpAnyN_done (by kernel_rfl) ?_
            try simp only [Act.put]
            try go_simp
            have HH8 := Lib.hid (HH.out.below HB8.out)
            have HR8 := Lib.hid (HR.out.below HB8.out)
            have HX8 := Lib.hid (keep_block HX.out HB8.out)
            have HB9 := Lib.hid (HB.out.trans (HB8.out.mono HB.out.size))
            clear HH HR HX HB HDR HXC HWA HSP HTA HSM HB6 HB7 HB8 qS
            obtain ⟨GN, hGN⟩ : ∃ GN, (gotN l ask).getD 0 = GN := ⟨_, rfl⟩
            obtain ⟨gb, hgb⟩ : ∃ gb, (gotN l ask).isSome = gb := ⟨_, rfl⟩
            have hgt := HH8.out.gotB ask (by rw [HNL.out]; omega)
            unfold gotV at hgt
            rw [hGN, hgb] at hgt
            have HGT := Lib.hid hgt
            have HGN := Lib.hid hGN
            have HGB := Lib.hid hgb
            clear hgt hGN hgb
            go_wp2_with fail
            refine HGT.out.mono ?_
            rintro e wD ⟨rfl, hbD⟩
            have HHD := Lib.hid (HH8.out.below hbD)
            have HRD := Lib.hid (HR8.out.below hbD)
            have HXD := Lib.hid (keep_block HX8.out hbD)
            have HBD := Lib.hid (HB9.out.trans (hbD.mono HB9.out.size))
            clear hbD HH8 HR8 HX8 HB9 HGT
            go_wp2_with fail
            go_loopg [23, 24, 25] nl (fun gg s23 s24 s25 wr2 => ∃ (k x : Nat) (y : Bool), k ≤ nl ∧ gg = nl - k ∧ s23 = .int .i64 (x : Int) ∧ s24 = .bool y ∧ s25 = .int .i64 (k : Int) ∧ x = (lastG ask none (l.take k)).getD 0 ∧ y = (lastG ask none (l.take k)).isSome ∧ wr2 = wD)
            case atStart => exact ⟨0, 0, false, Nat.zero_le _, by omega, rfl, rfl, rfl, rfl, rfl, rfl⟩
            case round =>
              obtain ⟨k, x, y, hk, hg2, rfl, rfl, rfl, hxx, hyy, hwD⟩ := hrel
              subst hwD
              have HG2 := Lib.hid hg2
              have HXX := Lib.hid hxx
              have HYY := Lib.hid hyy
              clear hg2 hxx hyy
              obtain ⟨x0, x1, _, _⟩ := two_heads HXD.out
              have hk0 : (0 : Int) ≤ (k : Int) := by omega
              by_cases hlt2 : k < nl
              · have hltz : (k : Int) < (nl : Int) := by omega
                obtain ⟨m, hm⟩ : ∃ m, l[k]? = some m := ⟨l[k]'(by rw [HNL.out]; exact hlt2), List.getElem?_eq_getElem _⟩
                have HMM := Lib.hid hm
                obtain ⟨g, cap, hA, hgl, hcap, hcapm, m0, m1⟩ := rowW_at HRD.out.ws hm
                obtain ⟨g2, cap2, hA2, hgl2, hcap2, hcapm2, m2, _⟩ := rowG_at HRD.out.gs hm
                injection hA with hA hA1 hA3; clear hA1 hA3
                injection hA2 with hA2 hA1 hA3; clear hA1 hA3
                subst hA hA2
                clear hm hgl hgl2 hcap hcap2 hcapm hcapm2
                by_cases e : (m.u : Int) = ask
                · have HE2 := Lib.hid e
                  have z1 : ((m.u : Int) == ask) = true := by simp [e]
                  have z2 : decide ((m.u : Int) = ask) = true := by simp [e]
                  clear e
                  go_wp2_with fail
                  go_roundg (nl - (k + 1))
                  case measure => have := HG2.out; omega
                  case rel => exact ⟨k + 1, m.g, true, by omega, rfl, rfl, rfl, by go_num, by rw [last_yes HMM.out HE2.out]; rfl, by rw [last_yes HMM.out HE2.out]; rfl, rfl⟩
                · have HE2 := Lib.hid e
                  have z1 : ((m.u : Int) == ask) = false := by simp [e]
                  have z2 : decide ((m.u : Int) = ask) = false := by simp [e]
                  clear e
                  go_wp2_with fail
                  go_roundg (nl - (k + 1))
                  case measure => have := HG2.out; omega
                  case rel => exact ⟨k + 1, x, y, by omega, rfl, rfl, rfl, by go_num, by rw [last_no HMM.out HE2.out]; exact HXX.out, by rw [last_no HMM.out HE2.out]; exact HYY.out, rfl⟩
              · have hltz : ¬ (k : Int) < (nl : Int) := by omega
                have hkn : k = nl := by omega
                have htk : l.take k = l := by rw [hkn, ← HNL.out, List.take_length]
                have hx1 := HXX.out
                have hy1 := HYY.out
                rw [htk, last_got HO.out, HGN.out] at hx1
                rw [htk, last_got HO.out, HGB.out] at hy1
                subst hx1 hy1
                have q1 : ((x : Int) != (x : Int)) = false := by simp
                have q2 : (y != y) = false := by simp
                clear hkn htk
                go_wp2_with fail
                go_roundg (N - (i + 1))
                case measure => have := HG.out; omega
                case rel => exact ⟨i + 1, by omega, rfl, by go_num, l, _, _, HHD.out, HO.out, HRD.out, HXD.out, HBD.out⟩
      · have hk2 : i = N := by omega
        by_cases y1 : i < rn
        · have y2 : (i : Int) < (rn : Int) := by omega
          have y3 : ¬ (i : Int) < 100 := by have := HNN.out; omega
          have y4 : decide ((i : Int) < 100) = false := decide_eq_false y3
          clear hk2
          go_wp2_with fail
          refine (HAW.out _).mono ?_
          rintro e w3 ⟨rfl, hb⟩
          obtain ⟨_, _, _, _, _, _, _, h5⟩ := HM.out
          have HB3 := Lib.hid (h5.trans (hb.mono h5.size))
          clear hb h5
          go_wp2_with fail
          go_ret
          exact ⟨rfl, HB3.out⟩
        · have y2 : ¬ (i : Int) < (rn : Int) := by omega
          have y4 : decide ((i : Int) < (rn : Int)) = false := decide_eq_false y2
          clear hk2
          go_wp2_with fail
          refine (HAW.out _).mono ?_
          rintro e w3 ⟨rfl, hb⟩
          obtain ⟨_, _, _, _, _, _, _, h5⟩ := HM.out
          have HB3 := Lib.hid (h5.trans (hb.mono h5.size))
          clear hb h5
          go_wp2_with fail
          go_ret
          exact ⟨rfl, HB3.out⟩
  · have HNW := Lib.hid (new_bad f _ qs w HS.out HI.out he)
    have q1 : (newE f qs != 0) = true := by simpa using he
    have q2 : (newE f qs != newE f qs) = false := by simp
    obtain ⟨E, hE⟩ : ∃ E, newE f qs = E := ⟨_, rfl⟩
    rw [hE] at HC HNW q1 q2
    clear he hE
    go_enter Try.func3, Try.ntmps3
    go_wp2_with fail
    refine HNW.out.mono ?_
    rintro e w1 ⟨rfl, hb⟩
    have HB1 := Lib.hid hb
    clear hb
    go_wp2_with fail
    refine (HC.out _ HB1.out).mono ?_
    rintro e w2 ⟨rfl, hb⟩
    have HB2 := Lib.hid (HB1.out.trans (hb.mono HB1.out.size))
    clear hb
    go_wp2_with fail
    refine (HAW.out _).mono ?_
    rintro e w3 ⟨rfl, hb⟩
    have HB3 := Lib.hid (HB2.out.trans (hb.mono HB2.out.size))
    clear hb
    go_wp2
    go_ret
    exact ⟨rfl, HB3.out⟩
end Go.Proofs.Ytngfcgegondmgaa
