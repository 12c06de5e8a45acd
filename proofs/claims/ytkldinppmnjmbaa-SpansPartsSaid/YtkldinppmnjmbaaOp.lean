/-
  The document's Op, for each of its three kinds.
  Conditions: none beyond what the slices read as.
-/
import Derived.Test.YtkldinppmnjmbaaOpMath
import Derived.Deep.Cut
import Derived.Deep.CutRange
set_option linter.unusedVariables false
namespace Go.Proofs.Ytkldinppmnjmbaa
open Go.RowKit

def OpRel (E : List Int) (f : Int → Bool) (n bb oo : Nat) (w : World) (g : Nat) (s7 s9 : Value) (wr : World) : Prop :=
  ∃ i : Nat, (i = 0 ∨ i + 1 ≤ n) ∧ g = n - i ∧ s9 = .int .i64 i ∧ Below w.heap.size w wr ∧ wr.ownsRow w.heap.size 42 2 s7 (opT E f i).length (spansCells (opT E f i)) ∧
    s7.ownBlock ≠ some bb ∧ bb < wr.heap.size ∧ ∀ (j : Nat) (x : Int), E[j]? = some x → wr.cell? ⟨bb, oo + j, none⟩ = some (.int .i64 x)
theorem getD_of {E : List Int} {i : Nat} {p : Int} (h : E[i]? = some p) : E.getD i 0 = p := by simp [List.getD, h]
theorem opT_yes {E : List Int} {f : Int → Bool} {i : Nat} {p q : Int} (hp : E[i]? = some p) (hq : E[i + 1]? = some q) (h : f p = true) : opT E f (i + 1) = stepR (opT E f i) p q := by
  show (if f (E.getD i 0) then stepR (opT E f i) (E.getD i 0) (E.getD (i + 1) 0) else opT E f i) = _
  rw [getD_of hp, getD_of hq, if_pos h]
theorem opT_no {E : List Int} {f : Int → Bool} {i : Nat} {p : Int} (hp : E[i]? = some p) (h : f p = false) : opT E f (i + 1) = opT E f i := by
  show (if f (E.getD i 0) then stepR (opT E f i) (E.getD i 0) (E.getD (i + 1) 0) else opT E f i) = _
  rw [getD_of hp, if_neg (by rw [h]; simp)]

set_option maxRecDepth 100000 in
set_option maxHeartbeats 8000000 in
theorem op0_any (x y : Value) (a b : List Sp) (w : World) (hx : SpansAt w x a) (hy : SpansAt w y b) (hl : (a.length + b.length) * 2 ≤ 80000) :
    Calls Try.prog 12 #[.int .i64 0, x, y] w (RetS (refOp 0 a b) w) := by
  obtain ⟨i0, hi, hz0, hz1, hz2⟩ := info_parts Try.infoSpanR
  have hb0 : Below w.heap.size w (w.alloc (Obj.cells #[] 42)) := (Below.refl _ _).alloc (Nat.le_refl _) _
  have HE := Lib.hid (ends_any x y a b (w.alloc (Obj.cells #[] 42)) (hx.keep hb0) (hy.keep hb0) hl)
  have HO0 : Hid ((w.alloc (Obj.cells #[] 42)).ownsRow w.heap.size 42 2 (.slice (some ⟨w.heap.size, 0, none⟩) 0 0) 0 []) :=
    ⟨rfl, .inr ⟨w.heap.size, 0, #[], rfl, Nat.le_refl _, heap_alloc_new w _, Nat.le_refl _, Nat.zero_le _, rfl, rfl⟩⟩
  have HB0 := Lib.hid hb0
  have HX := Lib.hid (fun (q : Int) (W : World) (hb : Below w.heap.size w W) => refHas_any x a q W (hx.keep hb))
  have HY := Lib.hid (fun (q : Int) (W : World) (hb : Below w.heap.size w W) => refHas_any y b q W (hy.keep hb))
  have hel := endsT_length a b
  have HREF : Hid (refOp 0 a b = opT (endsT a b) (inAB 0 a b) ((endsT a b).length - 1)) := rfl
  have HFX : Hid (∀ q, inAB 0 a b q = inK 0 (a.any (inS q)) (b.any (inS q))) := fun _ => rfl
  generalize endsT a b = E at *
  generalize inAB 0 a b = f at *
  clear hx hy hb0
  go_enter Try.func12, Try.ntmps12
  go_wp2_with fail
  refine HE.out.mono ?_
  rintro e w1 ⟨v1, rfl, hi1, hf1, hb1⟩
  obtain ⟨bb, oo, cc, rfl, g1, g2, g3, g4, g5⟩ := hi1
  have hbb : w.heap.size + 1 ≤ bb := by
    have := hf1 bb rfl
    simpa using this
  have HB1 := Lib.hid (HB0.out.trans (hb1.mono (by simp)))
  have HO1 := Lib.hid (own_below5 HO0.out hb1)
  have HC1 := Lib.hid g5
  have HN1 : Hid ((Value.slice (some ⟨w.heap.size, 0, none⟩) 0 0).ownBlock ≠ some bb) := fun e => by
    have e' : w.heap.size = bb := Option.some.inj e
    omega
  have HL1 := Lib.hid g4
  generalize hn : E.length = n at *
  have HN := Lib.hid hn
  clear hf1 hb1 g4 g5 hn HE
  go_wp2_with fail
  go_loopg [7, 9, 10, 11, 12, 13] n (fun g s7 s9 _ _ _ _ wr => OpRel E f n bb oo w g s7 s9 wr)
  case atStart => exact ⟨0, .inl rfl, by omega, rfl, HB1.out, HO1.out, HN1.out, HL1.out, HC1.out⟩
  case round =>
    obtain ⟨i, hin, hgg, rfl, hbw, hown, hnb, hbl, hcells⟩ := hrel
    have HG := Lib.hid hgg
    have HB := Lib.hid hbw
    have HO := Lib.hid hown
    have HNB := Lib.hid hnb
    have HC := Lib.hid hcells
    have hsz := hbw.size
    clear hgg hbw hown hnb hcells
    by_cases hlt : i + 1 < n
    · obtain ⟨p, hp⟩ := ex_at (xs := E) (k := i) (by rw [HN.out]; omega)
      obtain ⟨q, hq⟩ := ex_at (xs := E) (k := i + 1) (by rw [HN.out]; omega)
      have e1 := HC.out i p hp
      have e2 := HC.out (i + 1) q hq
      have HFP := Lib.hid (HFX.out p)
      have HCX := Lib.hid (HX.out p wr HB.out)
      have HCY := Lib.hid (HY.out p wr HB.out)
      have HNO := Lib.hid (fun h : f p = false => opT_no hp h)
      have HYES := Lib.hid (fun h : f p = true => opT_yes hp hq h)
      have hol := opT_length E f i
      generalize opT E f i = o at *
      generalize a.any (inS p) = X at *
      generalize b.any (inS p) = Y at *
      have hltz : (i : Int) + 1 < (n : Int) := by omega
      have hlt0 : (i : Int) < (n : Int) := by omega
      have hltn : i < n := by omega
      have hwr : IntKind.i64.wrap ((i : Int) + 1) = (i : Int) + 1 := IntWalk.i64_in _ (by omega)
      have hi0 : (0 : Int) ≤ (i : Int) := by omega
      have hi1 : (0 : Int) ≤ (i : Int) + 1 := by omega
      have htn : ((i : Int) + 1).toNat = i + 1 := by omega
      clear hp hq
      go_upto_region 8 with (first | (go_at_call 15; first | ((with_reducible refine HCX.out.mono ?_); rintro e' w' ⟨rfl, rfl⟩) | ((with_reducible refine HCY.out.mono ?_); rintro e' w' ⟨rfl, rfl⟩)))
      obtain ⟨B, HBB⟩ : ∃ B, Hid (B = (X || Y)) := ⟨_, rfl⟩
      go_cut [12] from 18 to 95 (fun s12 wx => s12 = .bool B ∧ wx = wr)
      case first =>
        cases X
        · cases Y
          · have hB := Lib.hid (show false = B from HBB.out.symm)
            go_wp2_with fail
            go_meet
            exact ⟨by rw [← hB.out], rfl⟩
          · have hB := Lib.hid (show true = B from HBB.out.symm)
            go_wp2_with fail
            go_meet
            exact ⟨by rw [← hB.out], rfl⟩
        · have hB := Lib.hid (show true = B from HBB.out.symm)
          go_wp2_with fail
          go_meet
          exact ⟨by rw [← hB.out], rfl⟩
      case rest =>
        obtain ⟨rfl, hwc⟩ := hcut
        have hwc2 := hwc.symm
        subst hwc2
        clear hwc
        cases B
        · have HF := Lib.hid (show f p = false by rw [HFP.out]; exact HBB.out.symm)
          have HSAME := Lib.hid (HNO.out HF.out)
          go_wp2_with fail
          go_roundg (n - (i + 1))
          case measure => have := HG.out; omega
          case rel =>
            refine ⟨i + 1, .inr (by omega), rfl, by go_num, HB.out, ?_, HNB.out, hbl, HC.out⟩
            rw [HSAME.out]
            exact HO.out
        · have HF := Lib.hid (show f p = true by rw [HFP.out]; exact HBB.out.symm)
          have HY1 := Lib.hid (HYES.out HF.out)
          clear HYES HNO
          rcases List.eq_nil_or_concat o with rfl | ⟨r, l, rfl⟩
          · rw [stepR_nil] at HY1
            obtain ⟨A0, k0, rfl⟩ := own_form HO.out
            simp only [List.length_nil] at HO HNB
            go_wp2_with fail
            go_quiet (fail)
            go_wp2_with fail
            have HOq := Lib.hid (own_draw HO.out nq)
            have e1q : (wr.drewN nq).cell? ⟨bb, oo + i, none⟩ = some (.int .i64 p) := e1
            have e2q : (wr.drewN nq).cell? ⟨bb, oo + (i + 1), none⟩ = some (.int .i64 q) := e2
            have HBq := Lib.hid (below_drewN HB.out nq)
            have HCq : Hid (∀ (j : Nat) (x : Int), E[j]? = some x → (wr.drewN nq).cell? ⟨bb, oo + j, none⟩ = some (.int .i64 x)) := HC.out
            have hszq : w.heap.size ≤ (wr.drewN nq).heap.size := hsz
            have hblq : bb < (wr.drewN nq).heap.size := hbl
            have ak := HNB.out
            generalize wr.drewN nq = wq at *
            go_region_held3 (fun w' => w'.cell? ⟨bb, oo + i, none⟩ = some (.int .i64 p) ∧ w'.cell? ⟨bb, oo + (i + 1), none⟩ = some (.int .i64 q))
              (first
                | go_keep
                | (go_split_ands
                   refine ⟨?_, ?_⟩
                   · (rw [hgrow.cell_far _ (by simp; omega) (Ne.symm ak)]; assumption)
                   · (rw [hgrow.cell_far _ (by simp; omega) (Ne.symm ak)]; assumption)))
              ((refine step_append_lies _ (by rfl) _ _ _ (by rfl) w.heap.size 42 i0 _ 2 16 Try.underlying22 hi hz0 hz1 hz2 rfl (by omega) (Value.slice A0 0 k0) 0 (spansCells []) (by rfl) ((own_draw HOq.out 1).alloc _)
                  ⟨wq.heap.size, 0, none⟩ 1 1 [.int .i64 p, .int .i64 q] (by rfl) (by rfl) (news_two _ _ (by simp) _ _ _) (by simp [Value.oneCell'])
                  (by omega) (by unfold maxLen; omega) (by omega) (by simp; omega) (wq.heap.size + 1) (by simp) ?_; intro gg cap3 w3 hown3 hgrow hat hlt3))
            all_goals
              have HC3 : Hid (∀ (j : Nat) (x : Int), E[j]? = some x → w3.cell? ⟨bb, oo + j, none⟩ = some (.int .i64 x)) := fun j x h =>
                (hgrow.cell_far (⟨bb, oo + j, none⟩ : Addr) (by simp; omega) (Ne.symm ak)).trans (Lib.cell?_alloc_some _ (HCq.out j x h))
              have HB3 := Lib.hid ((HBq.out.alloc hszq (Obj.cells #[Value.int .i64 p, Value.int .i64 q] 42)).drew.trans (below_grown5 hgrow (by simp; omega) (own_base5 HOq.out)))
              have HO3 := Lib.hid hown3
              have hs3 := hgrow.size
              have HNB3 : Hid ((Value.slice (some ⟨gg, 0, none⟩) (0 + 1) cap3).ownBlock ≠ some bb) := fun e => by
                have e' : gg = bb := Option.some.inj e
                rcases hat with h | h
                · rw [e'] at h; exact ak h
                · omega
              have hs4 : bb < w3.heap.size := by simp at hs3; omega
              clear hown3 hgrow hat hs3
              go_wp2
              go_roundg (n - (i + 1))
              case measure => have := HG.out; omega
              case rel =>
                refine ⟨i + 1, .inr (by omega), rfl, by go_num, HB3.out, ?_, HNB3.out, hs4, HC3.out⟩
                rw [HY1.out]
                exact HO3.out
          · rw [List.concat_eq_append] at HO HY1 hol
            rw [stepR_snoc] at HY1
            have hgt : (r ++ [l])[r.length]? = some l := by simp
            have hpos : 0 < (r ++ [l]).length := by simp
            obtain ⟨g, cap, rfl, hbg, hgl, hncap, hcm, hat0, hfr⟩ := own_lies HO.out hpos
            obtain ⟨d1, d2⟩ := hat0 r.length l hgt
            have f2 := hfr (r.length * 2 + 1) (by simp; omega)
            have HGT := Lib.hid (fun t => spansCells_set2 (r ++ [l]) r.length l t hgt)
            have HST := Lib.hid (show ∀ z : Sp, (r ++ [l]).set r.length z = r ++ [z] from fun z => by simp)
            rw [List.length_append, List.length_singleton] at *
            clear hat0 hfr hgt hpos
            generalize hm : r.length = m at *
            have HM := Lib.hid hm
            clear hm
            obtain ⟨l1, l2⟩ := l
            simp only at d1 d2 HY1 HGT
            have hne : g ≠ bb := fun e => HNB.out (by rw [e]; rfl)
            by_cases hc : l2 = p
            · have hcb : (l2 == p) = true := by simpa using hc
              rw [if_pos hc] at HY1
              clear hc
              go_wp2_with fail
              go_quiet (fail)
              go_wp2_with fail
              go_roundg (n - (i + 1))
              case measure => have := HG.out; omega
              case rel =>
                refine ⟨i + 1, .inr (by omega), rfl, by go_num, (below_drewN HB.out _).setCell hbg _, ?_, HNB.out, ?_, fun j z h => ?_⟩
                · have h := own_set (k := m * 2 + 1) (own_draw HO.out nq) (.int .i64 q)
                  have hl3 : (r ++ [(l1, q)]).length = m + 1 := by have := HM.out; simp; omega
                  rw [HGT.out, HST.out] at h
                  rw [HY1.out, hl3]
                  exact h
                · simpa [World.setCell] using hbl
                · rw [World.cell?_setCell_other _ _ _ _ (by intro e; injection e with e1; first | exact hne e1 | exact hne e1.symm)]
                  exact HC.out j z h
            · have hcb : (l2 == p) = false := by simpa using hc
              rw [if_neg hc] at HY1
              clear hc
              go_wp2_with fail
              go_quiet (fail)
              go_wp2_with fail
              have HOq := Lib.hid (own_draw HO.out nq)
              have e1q : (wr.drewN nq).cell? ⟨bb, oo + i, none⟩ = some (.int .i64 p) := e1
              have e2q : (wr.drewN nq).cell? ⟨bb, oo + (i + 1), none⟩ = some (.int .i64 q) := e2
              have HBq := Lib.hid (below_drewN HB.out nq)
              have HCq : Hid (∀ (j : Nat) (x : Int), E[j]? = some x → (wr.drewN nq).cell? ⟨bb, oo + j, none⟩ = some (.int .i64 x)) := HC.out
              have hszq : w.heap.size ≤ (wr.drewN nq).heap.size := hsz
              have hblq : bb < (wr.drewN nq).heap.size := hbl
              have ak := HNB.out
              generalize wr.drewN nq = wq at *
              go_region_held3 (fun w' => w'.cell? ⟨bb, oo + i, none⟩ = some (.int .i64 p) ∧ w'.cell? ⟨bb, oo + (i + 1), none⟩ = some (.int .i64 q))
                (first
                  | go_keep
                  | (go_split_ands
                     refine ⟨?_, ?_⟩
                     · (rw [hgrow.cell_far _ (by simp; omega) (Ne.symm ak)]; assumption)
                     · (rw [hgrow.cell_far _ (by simp; omega) (Ne.symm ak)]; assumption)))
                ((refine step_append_lies _ (by rfl) _ _ _ (by rfl) w.heap.size 42 i0 _ 2 16 Try.underlying22 hi hz0 hz1 hz2 rfl (by omega) (Value.slice (some ⟨g, 0, none⟩) (m + 1) cap) (m + 1) (spansCells (r ++ [(l1, l2)])) (by rfl) ((own_draw HOq.out 1).alloc _)
                    ⟨wq.heap.size, 0, none⟩ 1 1 [.int .i64 p, .int .i64 q] (by rfl) (by rfl) (news_two _ _ (by simp) _ _ _) (by simp [Value.oneCell'])
                    (by omega) (by unfold maxLen; omega) (by omega) (by simp; omega) (wq.heap.size + 1) (by simp) ?_; intro gg cap3 w3 hown3 hgrow hat hlt3))
              all_goals
                have HC3 : Hid (∀ (j : Nat) (x : Int), E[j]? = some x → w3.cell? ⟨bb, oo + j, none⟩ = some (.int .i64 x)) := fun j x h =>
                  (hgrow.cell_far (⟨bb, oo + j, none⟩ : Addr) (by simp; omega) (Ne.symm ak)).trans (Lib.cell?_alloc_some _ (HCq.out j x h))
                have HB3 := Lib.hid ((HBq.out.alloc hszq (Obj.cells #[Value.int .i64 p, Value.int .i64 q] 42)).drew.trans (below_grown5 hgrow (by simp; omega) (own_base5 HOq.out)))
                have HO3 := Lib.hid hown3
                have hs3 := hgrow.size
                have HNB3 : Hid ((Value.slice (some ⟨gg, 0, none⟩) ((m + 1) + 1) cap3).ownBlock ≠ some bb) := fun e => by
                  have e' : gg = bb := Option.some.inj e
                  rcases hat with h | h
                  · rw [e'] at h; exact ak h
                  · omega
                have hs4 : bb < w3.heap.size := by simp at hs3; omega
                clear hown3 hgrow hat hs3
                go_wp2
                go_roundg (n - (i + 1))
                case measure => have := HG.out; omega
                case rel =>
                  refine ⟨i + 1, .inr (by omega), rfl, by go_num, HB3.out, ?_, HNB3.out, hs4, HC3.out⟩
                  have hl3 : (r ++ [(l1, l2)] ++ [(p, q)]).length = m + 1 + 1 := by have := HM.out; simp; omega
                  rw [HY1.out, spansCells_snoc, hl3]
                  exact HO3.out
    · have hend : i = n - 1 := by omega
      have HR := Lib.hid (show opT E f i = refOp 0 a b by rw [HREF.out, hend])
      have hlen := refOp_length 0 a b
      rw [HR.out] at HO
      have HF := Lib.hid (spans_of_own HO.out (by omega))
      have hltz : ¬ (i : Int) + 1 < (n : Int) := by omega
      clear hend hlen
      go_wp2
      go_ret
      exact ⟨_, rfl, HF.out, HB.out⟩

set_option maxRecDepth 100000 in
set_option maxHeartbeats 8000000 in
theorem op1_any (x y : Value) (a b : List Sp) (w : World) (hx : SpansAt w x a) (hy : SpansAt w y b) (hl : (a.length + b.length) * 2 ≤ 80000) :
    Calls Try.prog 12 #[.int .i64 1, x, y] w (RetS (refOp 1 a b) w) := by
  obtain ⟨i0, hi, hz0, hz1, hz2⟩ := info_parts Try.infoSpanR
  have hb0 : Below w.heap.size w (w.alloc (Obj.cells #[] 42)) := (Below.refl _ _).alloc (Nat.le_refl _) _
  have HE := Lib.hid (ends_any x y a b (w.alloc (Obj.cells #[] 42)) (hx.keep hb0) (hy.keep hb0) hl)
  have HO0 : Hid ((w.alloc (Obj.cells #[] 42)).ownsRow w.heap.size 42 2 (.slice (some ⟨w.heap.size, 0, none⟩) 0 0) 0 []) :=
    ⟨rfl, .inr ⟨w.heap.size, 0, #[], rfl, Nat.le_refl _, heap_alloc_new w _, Nat.le_refl _, Nat.zero_le _, rfl, rfl⟩⟩
  have HB0 := Lib.hid hb0
  have HX := Lib.hid (fun (q : Int) (W : World) (hb : Below w.heap.size w W) => refHas_any x a q W (hx.keep hb))
  have HY := Lib.hid (fun (q : Int) (W : World) (hb : Below w.heap.size w W) => refHas_any y b q W (hy.keep hb))
  have hel := endsT_length a b
  have HREF : Hid (refOp 1 a b = opT (endsT a b) (inAB 1 a b) ((endsT a b).length - 1)) := rfl
  have HFX : Hid (∀ q, inAB 1 a b q = inK 1 (a.any (inS q)) (b.any (inS q))) := fun _ => rfl
  generalize endsT a b = E at *
  generalize inAB 1 a b = f at *
  clear hx hy hb0
  go_enter Try.func12, Try.ntmps12
  go_wp2_with fail
  refine HE.out.mono ?_
  rintro e w1 ⟨v1, rfl, hi1, hf1, hb1⟩
  obtain ⟨bb, oo, cc, rfl, g1, g2, g3, g4, g5⟩ := hi1
  have hbb : w.heap.size + 1 ≤ bb := by
    have := hf1 bb rfl
    simpa using this
  have HB1 := Lib.hid (HB0.out.trans (hb1.mono (by simp)))
  have HO1 := Lib.hid (own_below5 HO0.out hb1)
  have HC1 := Lib.hid g5
  have HN1 : Hid ((Value.slice (some ⟨w.heap.size, 0, none⟩) 0 0).ownBlock ≠ some bb) := fun e => by
    have e' : w.heap.size = bb := Option.some.inj e
    omega
  have HL1 := Lib.hid g4
  generalize hn : E.length = n at *
  have HN := Lib.hid hn
  clear hf1 hb1 g4 g5 hn HE
  go_wp2_with fail
  go_loopg [7, 9, 10, 11, 12, 13] n (fun g s7 s9 _ _ _ _ wr => OpRel E f n bb oo w g s7 s9 wr)
  case atStart => exact ⟨0, .inl rfl, by omega, rfl, HB1.out, HO1.out, HN1.out, HL1.out, HC1.out⟩
  case round =>
    obtain ⟨i, hin, hgg, rfl, hbw, hown, hnb, hbl, hcells⟩ := hrel
    have HG := Lib.hid hgg
    have HB := Lib.hid hbw
    have HO := Lib.hid hown
    have HNB := Lib.hid hnb
    have HC := Lib.hid hcells
    have hsz := hbw.size
    clear hgg hbw hown hnb hcells
    by_cases hlt : i + 1 < n
    · obtain ⟨p, hp⟩ := ex_at (xs := E) (k := i) (by rw [HN.out]; omega)
      obtain ⟨q, hq⟩ := ex_at (xs := E) (k := i + 1) (by rw [HN.out]; omega)
      have e1 := HC.out i p hp
      have e2 := HC.out (i + 1) q hq
      have HFP := Lib.hid (HFX.out p)
      have HCX := Lib.hid (HX.out p wr HB.out)
      have HCY := Lib.hid (HY.out p wr HB.out)
      have HNO := Lib.hid (fun h : f p = false => opT_no hp h)
      have HYES := Lib.hid (fun h : f p = true => opT_yes hp hq h)
      have hol := opT_length E f i
      generalize opT E f i = o at *
      generalize a.any (inS p) = X at *
      generalize b.any (inS p) = Y at *
      have hltz : (i : Int) + 1 < (n : Int) := by omega
      have hlt0 : (i : Int) < (n : Int) := by omega
      have hltn : i < n := by omega
      have hwr : IntKind.i64.wrap ((i : Int) + 1) = (i : Int) + 1 := IntWalk.i64_in _ (by omega)
      have hi0 : (0 : Int) ≤ (i : Int) := by omega
      have hi1 : (0 : Int) ≤ (i : Int) + 1 := by omega
      have htn : ((i : Int) + 1).toNat = i + 1 := by omega
      clear hp hq
      go_upto_region 8 with (first | (go_at_call 15; first | ((with_reducible refine HCX.out.mono ?_); rintro e' w' ⟨rfl, rfl⟩) | ((with_reducible refine HCY.out.mono ?_); rintro e' w' ⟨rfl, rfl⟩)))
      go_cut [12] from 18 to 95 (fun s12 wx => ∃ B0 : Bool, s12 = .bool B0 ∧ wx = wr)
      case first =>
        cases X
        · cases Y
          · go_wp2_with fail
            go_meet
            exact ⟨_, rfl, rfl⟩
          · go_wp2_with fail
            go_meet
            exact ⟨_, rfl, rfl⟩
        · go_wp2_with fail
          go_meet
          exact ⟨_, rfl, rfl⟩
      case rest =>
        obtain ⟨B0, rfl, hwc⟩ := hcut
        have hwc2 := hwc.symm
        subst hwc2
        clear hwc
        obtain ⟨B, HBB⟩ : ∃ B, Hid (B = (X && Y)) := ⟨_, rfl⟩
        go_upto_region 10 with fail
        go_cut [12] from 18 to 95 (fun s12 wx => s12 = .bool B ∧ wx = wr)
        case first =>
          cases X
          · have hB := Lib.hid (show false = B from HBB.out.symm)
            go_wp2_with fail
            go_meet
            exact ⟨by rw [← hB.out], rfl⟩
          · cases Y
            · have hB := Lib.hid (show false = B from HBB.out.symm)
              go_wp2_with fail
              go_meet
              exact ⟨by rw [← hB.out], rfl⟩
            · have hB := Lib.hid (show true = B from HBB.out.symm)
              go_wp2_with fail
              go_meet
              exact ⟨by rw [← hB.out], rfl⟩
        case rest =>
        obtain ⟨rfl, hwc⟩ := hcut
        have hwc2 := hwc.symm
        subst hwc2
        clear hwc
        cases B
        · have HF := Lib.hid (show f p = false by rw [HFP.out]; exact HBB.out.symm)
          have HSAME := Lib.hid (HNO.out HF.out)
          go_wp2_with fail
          go_roundg (n - (i + 1))
          case measure => have := HG.out; omega
          case rel =>
            refine ⟨i + 1, .inr (by omega), rfl, by go_num, HB.out, ?_, HNB.out, hbl, HC.out⟩
            rw [HSAME.out]
            exact HO.out
        · have HF := Lib.hid (show f p = true by rw [HFP.out]; exact HBB.out.symm)
          have HY1 := Lib.hid (HYES.out HF.out)
          clear HYES HNO
          rcases List.eq_nil_or_concat o with rfl | ⟨r, l, rfl⟩
          · rw [stepR_nil] at HY1
            obtain ⟨A0, k0, rfl⟩ := own_form HO.out
            simp only [List.length_nil] at HO HNB
            go_wp2_with fail
            go_quiet (fail)
            go_wp2_with fail
            have HOq := Lib.hid (own_draw HO.out nq)
            have e1q : (wr.drewN nq).cell? ⟨bb, oo + i, none⟩ = some (.int .i64 p) := e1
            have e2q : (wr.drewN nq).cell? ⟨bb, oo + (i + 1), none⟩ = some (.int .i64 q) := e2
            have HBq := Lib.hid (below_drewN HB.out nq)
            have HCq : Hid (∀ (j : Nat) (x : Int), E[j]? = some x → (wr.drewN nq).cell? ⟨bb, oo + j, none⟩ = some (.int .i64 x)) := HC.out
            have hszq : w.heap.size ≤ (wr.drewN nq).heap.size := hsz
            have hblq : bb < (wr.drewN nq).heap.size := hbl
            have ak := HNB.out
            generalize wr.drewN nq = wq at *
            go_region_held3 (fun w' => w'.cell? ⟨bb, oo + i, none⟩ = some (.int .i64 p) ∧ w'.cell? ⟨bb, oo + (i + 1), none⟩ = some (.int .i64 q))
              (first
                | go_keep
                | (go_split_ands
                   refine ⟨?_, ?_⟩
                   · (rw [hgrow.cell_far _ (by simp; omega) (Ne.symm ak)]; assumption)
                   · (rw [hgrow.cell_far _ (by simp; omega) (Ne.symm ak)]; assumption)))
              ((refine step_append_lies _ (by rfl) _ _ _ (by rfl) w.heap.size 42 i0 _ 2 16 Try.underlying22 hi hz0 hz1 hz2 rfl (by omega) (Value.slice A0 0 k0) 0 (spansCells []) (by rfl) ((own_draw HOq.out 1).alloc _)
                  ⟨wq.heap.size, 0, none⟩ 1 1 [.int .i64 p, .int .i64 q] (by rfl) (by rfl) (news_two _ _ (by simp) _ _ _) (by simp [Value.oneCell'])
                  (by omega) (by unfold maxLen; omega) (by omega) (by simp; omega) (wq.heap.size + 1) (by simp) ?_; intro gg cap3 w3 hown3 hgrow hat hlt3))
            all_goals
              have HC3 : Hid (∀ (j : Nat) (x : Int), E[j]? = some x → w3.cell? ⟨bb, oo + j, none⟩ = some (.int .i64 x)) := fun j x h =>
                (hgrow.cell_far (⟨bb, oo + j, none⟩ : Addr) (by simp; omega) (Ne.symm ak)).trans (Lib.cell?_alloc_some _ (HCq.out j x h))
              have HB3 := Lib.hid ((HBq.out.alloc hszq (Obj.cells #[Value.int .i64 p, Value.int .i64 q] 42)).drew.trans (below_grown5 hgrow (by simp; omega) (own_base5 HOq.out)))
              have HO3 := Lib.hid hown3
              have hs3 := hgrow.size
              have HNB3 : Hid ((Value.slice (some ⟨gg, 0, none⟩) (0 + 1) cap3).ownBlock ≠ some bb) := fun e => by
                have e' : gg = bb := Option.some.inj e
                rcases hat with h | h
                · rw [e'] at h; exact ak h
                · omega
              have hs4 : bb < w3.heap.size := by simp at hs3; omega
              clear hown3 hgrow hat hs3
              go_wp2
              go_roundg (n - (i + 1))
              case measure => have := HG.out; omega
              case rel =>
                refine ⟨i + 1, .inr (by omega), rfl, by go_num, HB3.out, ?_, HNB3.out, hs4, HC3.out⟩
                rw [HY1.out]
                exact HO3.out
          · rw [List.concat_eq_append] at HO HY1 hol
            rw [stepR_snoc] at HY1
            have hgt : (r ++ [l])[r.length]? = some l := by simp
            have hpos : 0 < (r ++ [l]).length := by simp
            obtain ⟨g, cap, rfl, hbg, hgl, hncap, hcm, hat0, hfr⟩ := own_lies HO.out hpos
            obtain ⟨d1, d2⟩ := hat0 r.length l hgt
            have f2 := hfr (r.length * 2 + 1) (by simp; omega)
            have HGT := Lib.hid (fun t => spansCells_set2 (r ++ [l]) r.length l t hgt)
            have HST := Lib.hid (show ∀ z : Sp, (r ++ [l]).set r.length z = r ++ [z] from fun z => by simp)
            rw [List.length_append, List.length_singleton] at *
            clear hat0 hfr hgt hpos
            generalize hm : r.length = m at *
            have HM := Lib.hid hm
            clear hm
            obtain ⟨l1, l2⟩ := l
            simp only at d1 d2 HY1 HGT
            have hne : g ≠ bb := fun e => HNB.out (by rw [e]; rfl)
            by_cases hc : l2 = p
            · have hcb : (l2 == p) = true := by simpa using hc
              rw [if_pos hc] at HY1
              clear hc
              go_wp2_with fail
              go_quiet (fail)
              go_wp2_with fail
              go_roundg (n - (i + 1))
              case measure => have := HG.out; omega
              case rel =>
                refine ⟨i + 1, .inr (by omega), rfl, by go_num, (below_drewN HB.out _).setCell hbg _, ?_, HNB.out, ?_, fun j z h => ?_⟩
                · have h := own_set (k := m * 2 + 1) (own_draw HO.out nq) (.int .i64 q)
                  have hl3 : (r ++ [(l1, q)]).length = m + 1 := by have := HM.out; simp; omega
                  rw [HGT.out, HST.out] at h
                  rw [HY1.out, hl3]
                  exact h
                · simpa [World.setCell] using hbl
                · rw [World.cell?_setCell_other _ _ _ _ (by intro e; injection e with e1; first | exact hne e1 | exact hne e1.symm)]
                  exact HC.out j z h
            · have hcb : (l2 == p) = false := by simpa using hc
              rw [if_neg hc] at HY1
              clear hc
              go_wp2_with fail
              go_quiet (fail)
              go_wp2_with fail
              have HOq := Lib.hid (own_draw HO.out nq)
              have e1q : (wr.drewN nq).cell? ⟨bb, oo + i, none⟩ = some (.int .i64 p) := e1
              have e2q : (wr.drewN nq).cell? ⟨bb, oo + (i + 1), none⟩ = some (.int .i64 q) := e2
              have HBq := Lib.hid (below_drewN HB.out nq)
              have HCq : Hid (∀ (j : Nat) (x : Int), E[j]? = some x → (wr.drewN nq).cell? ⟨bb, oo + j, none⟩ = some (.int .i64 x)) := HC.out
              have hszq : w.heap.size ≤ (wr.drewN nq).heap.size := hsz
              have hblq : bb < (wr.drewN nq).heap.size := hbl
              have ak := HNB.out
              generalize wr.drewN nq = wq at *
              go_region_held3 (fun w' => w'.cell? ⟨bb, oo + i, none⟩ = some (.int .i64 p) ∧ w'.cell? ⟨bb, oo + (i + 1), none⟩ = some (.int .i64 q))
                (first
                  | go_keep
                  | (go_split_ands
                     refine ⟨?_, ?_⟩
                     · (rw [hgrow.cell_far _ (by simp; omega) (Ne.symm ak)]; assumption)
                     · (rw [hgrow.cell_far _ (by simp; omega) (Ne.symm ak)]; assumption)))
                ((refine step_append_lies _ (by rfl) _ _ _ (by rfl) w.heap.size 42 i0 _ 2 16 Try.underlying22 hi hz0 hz1 hz2 rfl (by omega) (Value.slice (some ⟨g, 0, none⟩) (m + 1) cap) (m + 1) (spansCells (r ++ [(l1, l2)])) (by rfl) ((own_draw HOq.out 1).alloc _)
                    ⟨wq.heap.size, 0, none⟩ 1 1 [.int .i64 p, .int .i64 q] (by rfl) (by rfl) (news_two _ _ (by simp) _ _ _) (by simp [Value.oneCell'])
                    (by omega) (by unfold maxLen; omega) (by omega) (by simp; omega) (wq.heap.size + 1) (by simp) ?_; intro gg cap3 w3 hown3 hgrow hat hlt3))
              all_goals
                have HC3 : Hid (∀ (j : Nat) (x : Int), E[j]? = some x → w3.cell? ⟨bb, oo + j, none⟩ = some (.int .i64 x)) := fun j x h =>
                  (hgrow.cell_far (⟨bb, oo + j, none⟩ : Addr) (by simp; omega) (Ne.symm ak)).trans (Lib.cell?_alloc_some _ (HCq.out j x h))
                have HB3 := Lib.hid ((HBq.out.alloc hszq (Obj.cells #[Value.int .i64 p, Value.int .i64 q] 42)).drew.trans (below_grown5 hgrow (by simp; omega) (own_base5 HOq.out)))
                have HO3 := Lib.hid hown3
                have hs3 := hgrow.size
                have HNB3 : Hid ((Value.slice (some ⟨gg, 0, none⟩) ((m + 1) + 1) cap3).ownBlock ≠ some bb) := fun e => by
                  have e' : gg = bb := Option.some.inj e
                  rcases hat with h | h
                  · rw [e'] at h; exact ak h
                  · omega
                have hs4 : bb < w3.heap.size := by simp at hs3; omega
                clear hown3 hgrow hat hs3
                go_wp2
                go_roundg (n - (i + 1))
                case measure => have := HG.out; omega
                case rel =>
                  refine ⟨i + 1, .inr (by omega), rfl, by go_num, HB3.out, ?_, HNB3.out, hs4, HC3.out⟩
                  have hl3 : (r ++ [(l1, l2)] ++ [(p, q)]).length = m + 1 + 1 := by have := HM.out; simp; omega
                  rw [HY1.out, spansCells_snoc, hl3]
                  exact HO3.out
    · have hend : i = n - 1 := by omega
      have HR := Lib.hid (show opT E f i = refOp 1 a b by rw [HREF.out, hend])
      have hlen := refOp_length 1 a b
      rw [HR.out] at HO
      have HF := Lib.hid (spans_of_own HO.out (by omega))
      have hltz : ¬ (i : Int) + 1 < (n : Int) := by omega
      clear hend hlen
      go_wp2
      go_ret
      exact ⟨_, rfl, HF.out, HB.out⟩

set_option maxRecDepth 100000 in
set_option maxHeartbeats 8000000 in
theorem op2_any (x y : Value) (a b : List Sp) (w : World) (hx : SpansAt w x a) (hy : SpansAt w y b) (hl : (a.length + b.length) * 2 ≤ 80000) :
    Calls Try.prog 12 #[.int .i64 2, x, y] w (RetS (refOp 2 a b) w) := by
  obtain ⟨i0, hi, hz0, hz1, hz2⟩ := info_parts Try.infoSpanR
  have hb0 : Below w.heap.size w (w.alloc (Obj.cells #[] 42)) := (Below.refl _ _).alloc (Nat.le_refl _) _
  have HE := Lib.hid (ends_any x y a b (w.alloc (Obj.cells #[] 42)) (hx.keep hb0) (hy.keep hb0) hl)
  have HO0 : Hid ((w.alloc (Obj.cells #[] 42)).ownsRow w.heap.size 42 2 (.slice (some ⟨w.heap.size, 0, none⟩) 0 0) 0 []) :=
    ⟨rfl, .inr ⟨w.heap.size, 0, #[], rfl, Nat.le_refl _, heap_alloc_new w _, Nat.le_refl _, Nat.zero_le _, rfl, rfl⟩⟩
  have HB0 := Lib.hid hb0
  have HX := Lib.hid (fun (q : Int) (W : World) (hb : Below w.heap.size w W) => refHas_any x a q W (hx.keep hb))
  have HY := Lib.hid (fun (q : Int) (W : World) (hb : Below w.heap.size w W) => refHas_any y b q W (hy.keep hb))
  have hel := endsT_length a b
  have HREF : Hid (refOp 2 a b = opT (endsT a b) (inAB 2 a b) ((endsT a b).length - 1)) := rfl
  have HFX : Hid (∀ q, inAB 2 a b q = inK 2 (a.any (inS q)) (b.any (inS q))) := fun _ => rfl
  generalize endsT a b = E at *
  generalize inAB 2 a b = f at *
  clear hx hy hb0
  go_enter Try.func12, Try.ntmps12
  go_wp2_with fail
  refine HE.out.mono ?_
  rintro e w1 ⟨v1, rfl, hi1, hf1, hb1⟩
  obtain ⟨bb, oo, cc, rfl, g1, g2, g3, g4, g5⟩ := hi1
  have hbb : w.heap.size + 1 ≤ bb := by
    have := hf1 bb rfl
    simpa using this
  have HB1 := Lib.hid (HB0.out.trans (hb1.mono (by simp)))
  have HO1 := Lib.hid (own_below5 HO0.out hb1)
  have HC1 := Lib.hid g5
  have HN1 : Hid ((Value.slice (some ⟨w.heap.size, 0, none⟩) 0 0).ownBlock ≠ some bb) := fun e => by
    have e' : w.heap.size = bb := Option.some.inj e
    omega
  have HL1 := Lib.hid g4
  generalize hn : E.length = n at *
  have HN := Lib.hid hn
  clear hf1 hb1 g4 g5 hn HE
  go_wp2_with fail
  go_loopg [7, 9, 10, 11, 12, 13] n (fun g s7 s9 _ _ _ _ wr => OpRel E f n bb oo w g s7 s9 wr)
  case atStart => exact ⟨0, .inl rfl, by omega, rfl, HB1.out, HO1.out, HN1.out, HL1.out, HC1.out⟩
  case round =>
    obtain ⟨i, hin, hgg, rfl, hbw, hown, hnb, hbl, hcells⟩ := hrel
    have HG := Lib.hid hgg
    have HB := Lib.hid hbw
    have HO := Lib.hid hown
    have HNB := Lib.hid hnb
    have HC := Lib.hid hcells
    have hsz := hbw.size
    clear hgg hbw hown hnb hcells
    by_cases hlt : i + 1 < n
    · obtain ⟨p, hp⟩ := ex_at (xs := E) (k := i) (by rw [HN.out]; omega)
      obtain ⟨q, hq⟩ := ex_at (xs := E) (k := i + 1) (by rw [HN.out]; omega)
      have e1 := HC.out i p hp
      have e2 := HC.out (i + 1) q hq
      have HFP := Lib.hid (HFX.out p)
      have HCX := Lib.hid (HX.out p wr HB.out)
      have HCY := Lib.hid (HY.out p wr HB.out)
      have HNO := Lib.hid (fun h : f p = false => opT_no hp h)
      have HYES := Lib.hid (fun h : f p = true => opT_yes hp hq h)
      have hol := opT_length E f i
      generalize opT E f i = o at *
      generalize a.any (inS p) = X at *
      generalize b.any (inS p) = Y at *
      have hltz : (i : Int) + 1 < (n : Int) := by omega
      have hlt0 : (i : Int) < (n : Int) := by omega
      have hltn : i < n := by omega
      have hwr : IntKind.i64.wrap ((i : Int) + 1) = (i : Int) + 1 := IntWalk.i64_in _ (by omega)
      have hi0 : (0 : Int) ≤ (i : Int) := by omega
      have hi1 : (0 : Int) ≤ (i : Int) + 1 := by omega
      have htn : ((i : Int) + 1).toNat = i + 1 := by omega
      clear hp hq
      go_upto_region 8 with (first | (go_at_call 15; first | ((with_reducible refine HCX.out.mono ?_); rintro e' w' ⟨rfl, rfl⟩) | ((with_reducible refine HCY.out.mono ?_); rintro e' w' ⟨rfl, rfl⟩)))
      go_cut [12] from 18 to 95 (fun s12 wx => ∃ B0 : Bool, s12 = .bool B0 ∧ wx = wr)
      case first =>
        cases X
        · cases Y
          · go_wp2_with fail
            go_meet
            exact ⟨_, rfl, rfl⟩
          · go_wp2_with fail
            go_meet
            exact ⟨_, rfl, rfl⟩
        · go_wp2_with fail
          go_meet
          exact ⟨_, rfl, rfl⟩
      case rest =>
        obtain ⟨B0, rfl, hwc⟩ := hcut
        have hwc2 := hwc.symm
        subst hwc2
        clear hwc
        obtain ⟨B, HBB⟩ : ∃ B, Hid (B = (X && !Y)) := ⟨_, rfl⟩
        go_upto_region 12 with fail
        go_cut [12] from 18 to 95 (fun s12 wx => s12 = .bool B ∧ wx = wr)
        case first =>
          cases X
          · have hB := Lib.hid (show false = B from HBB.out.symm)
            go_wp2_with fail
            go_meet
            exact ⟨by rw [← hB.out], rfl⟩
          · cases Y
            · have hB := Lib.hid (show true = B from HBB.out.symm)
              go_wp2_with fail
              go_meet
              exact ⟨by rw [← hB.out], rfl⟩
            · have hB := Lib.hid (show false = B from HBB.out.symm)
              go_wp2_with fail
              go_meet
              exact ⟨by rw [← hB.out], rfl⟩
        case rest =>
        obtain ⟨rfl, hwc⟩ := hcut
        have hwc2 := hwc.symm
        subst hwc2
        clear hwc
        cases B
        · have HF := Lib.hid (show f p = false by rw [HFP.out]; exact HBB.out.symm)
          have HSAME := Lib.hid (HNO.out HF.out)
          go_wp2_with fail
          go_roundg (n - (i + 1))
          case measure => have := HG.out; omega
          case rel =>
            refine ⟨i + 1, .inr (by omega), rfl, by go_num, HB.out, ?_, HNB.out, hbl, HC.out⟩
            rw [HSAME.out]
            exact HO.out
        · have HF := Lib.hid (show f p = true by rw [HFP.out]; exact HBB.out.symm)
          have HY1 := Lib.hid (HYES.out HF.out)
          clear HYES HNO
          rcases List.eq_nil_or_concat o with rfl | ⟨r, l, rfl⟩
          · rw [stepR_nil] at HY1
            obtain ⟨A0, k0, rfl⟩ := own_form HO.out
            simp only [List.length_nil] at HO HNB
            go_wp2_with fail
            go_quiet (fail)
            go_wp2_with fail
            have HOq := Lib.hid (own_draw HO.out nq)
            have e1q : (wr.drewN nq).cell? ⟨bb, oo + i, none⟩ = some (.int .i64 p) := e1
            have e2q : (wr.drewN nq).cell? ⟨bb, oo + (i + 1), none⟩ = some (.int .i64 q) := e2
            have HBq := Lib.hid (below_drewN HB.out nq)
            have HCq : Hid (∀ (j : Nat) (x : Int), E[j]? = some x → (wr.drewN nq).cell? ⟨bb, oo + j, none⟩ = some (.int .i64 x)) := HC.out
            have hszq : w.heap.size ≤ (wr.drewN nq).heap.size := hsz
            have hblq : bb < (wr.drewN nq).heap.size := hbl
            have ak := HNB.out
            generalize wr.drewN nq = wq at *
            go_region_held3 (fun w' => w'.cell? ⟨bb, oo + i, none⟩ = some (.int .i64 p) ∧ w'.cell? ⟨bb, oo + (i + 1), none⟩ = some (.int .i64 q))
              (first
                | go_keep
                | (go_split_ands
                   refine ⟨?_, ?_⟩
                   · (rw [hgrow.cell_far _ (by simp; omega) (Ne.symm ak)]; assumption)
                   · (rw [hgrow.cell_far _ (by simp; omega) (Ne.symm ak)]; assumption)))
              ((refine step_append_lies _ (by rfl) _ _ _ (by rfl) w.heap.size 42 i0 _ 2 16 Try.underlying22 hi hz0 hz1 hz2 rfl (by omega) (Value.slice A0 0 k0) 0 (spansCells []) (by rfl) ((own_draw HOq.out 1).alloc _)
                  ⟨wq.heap.size, 0, none⟩ 1 1 [.int .i64 p, .int .i64 q] (by rfl) (by rfl) (news_two _ _ (by simp) _ _ _) (by simp [Value.oneCell'])
                  (by omega) (by unfold maxLen; omega) (by omega) (by simp; omega) (wq.heap.size + 1) (by simp) ?_; intro gg cap3 w3 hown3 hgrow hat hlt3))
            all_goals
              have HC3 : Hid (∀ (j : Nat) (x : Int), E[j]? = some x → w3.cell? ⟨bb, oo + j, none⟩ = some (.int .i64 x)) := fun j x h =>
                (hgrow.cell_far (⟨bb, oo + j, none⟩ : Addr) (by simp; omega) (Ne.symm ak)).trans (Lib.cell?_alloc_some _ (HCq.out j x h))
              have HB3 := Lib.hid ((HBq.out.alloc hszq (Obj.cells #[Value.int .i64 p, Value.int .i64 q] 42)).drew.trans (below_grown5 hgrow (by simp; omega) (own_base5 HOq.out)))
              have HO3 := Lib.hid hown3
              have hs3 := hgrow.size
              have HNB3 : Hid ((Value.slice (some ⟨gg, 0, none⟩) (0 + 1) cap3).ownBlock ≠ some bb) := fun e => by
                have e' : gg = bb := Option.some.inj e
                rcases hat with h | h
                · rw [e'] at h; exact ak h
                · omega
              have hs4 : bb < w3.heap.size := by simp at hs3; omega
              clear hown3 hgrow hat hs3
              go_wp2
              go_roundg (n - (i + 1))
              case measure => have := HG.out; omega
              case rel =>
                refine ⟨i + 1, .inr (by omega), rfl, by go_num, HB3.out, ?_, HNB3.out, hs4, HC3.out⟩
                rw [HY1.out]
                exact HO3.out
          · rw [List.concat_eq_append] at HO HY1 hol
            rw [stepR_snoc] at HY1
            have hgt : (r ++ [l])[r.length]? = some l := by simp
            have hpos : 0 < (r ++ [l]).length := by simp
            obtain ⟨g, cap, rfl, hbg, hgl, hncap, hcm, hat0, hfr⟩ := own_lies HO.out hpos
            obtain ⟨d1, d2⟩ := hat0 r.length l hgt
            have f2 := hfr (r.length * 2 + 1) (by simp; omega)
            have HGT := Lib.hid (fun t => spansCells_set2 (r ++ [l]) r.length l t hgt)
            have HST := Lib.hid (show ∀ z : Sp, (r ++ [l]).set r.length z = r ++ [z] from fun z => by simp)
            rw [List.length_append, List.length_singleton] at *
            clear hat0 hfr hgt hpos
            generalize hm : r.length = m at *
            have HM := Lib.hid hm
            clear hm
            obtain ⟨l1, l2⟩ := l
            simp only at d1 d2 HY1 HGT
            have hne : g ≠ bb := fun e => HNB.out (by rw [e]; rfl)
            by_cases hc : l2 = p
            · have hcb : (l2 == p) = true := by simpa using hc
              rw [if_pos hc] at HY1
              clear hc
              go_wp2_with fail
              go_quiet (fail)
              go_wp2_with fail
              go_roundg (n - (i + 1))
              case measure => have := HG.out; omega
              case rel =>
                refine ⟨i + 1, .inr (by omega), rfl, by go_num, (below_drewN HB.out _).setCell hbg _, ?_, HNB.out, ?_, fun j z h => ?_⟩
                · have h := own_set (k := m * 2 + 1) (own_draw HO.out nq) (.int .i64 q)
                  have hl3 : (r ++ [(l1, q)]).length = m + 1 := by have := HM.out; simp; omega
                  rw [HGT.out, HST.out] at h
                  rw [HY1.out, hl3]
                  exact h
                · simpa [World.setCell] using hbl
                · rw [World.cell?_setCell_other _ _ _ _ (by intro e; injection e with e1; first | exact hne e1 | exact hne e1.symm)]
                  exact HC.out j z h
            · have hcb : (l2 == p) = false := by simpa using hc
              rw [if_neg hc] at HY1
              clear hc
              go_wp2_with fail
              go_quiet (fail)
              go_wp2_with fail
              have HOq := Lib.hid (own_draw HO.out nq)
              have e1q : (wr.drewN nq).cell? ⟨bb, oo + i, none⟩ = some (.int .i64 p) := e1
              have e2q : (wr.drewN nq).cell? ⟨bb, oo + (i + 1), none⟩ = some (.int .i64 q) := e2
              have HBq := Lib.hid (below_drewN HB.out nq)
              have HCq : Hid (∀ (j : Nat) (x : Int), E[j]? = some x → (wr.drewN nq).cell? ⟨bb, oo + j, none⟩ = some (.int .i64 x)) := HC.out
              have hszq : w.heap.size ≤ (wr.drewN nq).heap.size := hsz
              have hblq : bb < (wr.drewN nq).heap.size := hbl
              have ak := HNB.out
              generalize wr.drewN nq = wq at *
              go_region_held3 (fun w' => w'.cell? ⟨bb, oo + i, none⟩ = some (.int .i64 p) ∧ w'.cell? ⟨bb, oo + (i + 1), none⟩ = some (.int .i64 q))
                (first
                  | go_keep
                  | (go_split_ands
                     refine ⟨?_, ?_⟩
                     · (rw [hgrow.cell_far _ (by simp; omega) (Ne.symm ak)]; assumption)
                     · (rw [hgrow.cell_far _ (by simp; omega) (Ne.symm ak)]; assumption)))
                ((refine step_append_lies _ (by rfl) _ _ _ (by rfl) w.heap.size 42 i0 _ 2 16 Try.underlying22 hi hz0 hz1 hz2 rfl (by omega) (Value.slice (some ⟨g, 0, none⟩) (m + 1) cap) (m + 1) (spansCells (r ++ [(l1, l2)])) (by rfl) ((own_draw HOq.out 1).alloc _)
                    ⟨wq.heap.size, 0, none⟩ 1 1 [.int .i64 p, .int .i64 q] (by rfl) (by rfl) (news_two _ _ (by simp) _ _ _) (by simp [Value.oneCell'])
                    (by omega) (by unfold maxLen; omega) (by omega) (by simp; omega) (wq.heap.size + 1) (by simp) ?_; intro gg cap3 w3 hown3 hgrow hat hlt3))
              all_goals
                have HC3 : Hid (∀ (j : Nat) (x : Int), E[j]? = some x → w3.cell? ⟨bb, oo + j, none⟩ = some (.int .i64 x)) := fun j x h =>
                  (hgrow.cell_far (⟨bb, oo + j, none⟩ : Addr) (by simp; omega) (Ne.symm ak)).trans (Lib.cell?_alloc_some _ (HCq.out j x h))
                have HB3 := Lib.hid ((HBq.out.alloc hszq (Obj.cells #[Value.int .i64 p, Value.int .i64 q] 42)).drew.trans (below_grown5 hgrow (by simp; omega) (own_base5 HOq.out)))
                have HO3 := Lib.hid hown3
                have hs3 := hgrow.size
                have HNB3 : Hid ((Value.slice (some ⟨gg, 0, none⟩) ((m + 1) + 1) cap3).ownBlock ≠ some bb) := fun e => by
                  have e' : gg = bb := Option.some.inj e
                  rcases hat with h | h
                  · rw [e'] at h; exact ak h
                  · omega
                have hs4 : bb < w3.heap.size := by simp at hs3; omega
                clear hown3 hgrow hat hs3
                go_wp2
                go_roundg (n - (i + 1))
                case measure => have := HG.out; omega
                case rel =>
                  refine ⟨i + 1, .inr (by omega), rfl, by go_num, HB3.out, ?_, HNB3.out, hs4, HC3.out⟩
                  have hl3 : (r ++ [(l1, l2)] ++ [(p, q)]).length = m + 1 + 1 := by have := HM.out; simp; omega
                  rw [HY1.out, spansCells_snoc, hl3]
                  exact HO3.out
    · have hend : i = n - 1 := by omega
      have HR := Lib.hid (show opT E f i = refOp 2 a b by rw [HREF.out, hend])
      have hlen := refOp_length 2 a b
      rw [HR.out] at HO
      have HF := Lib.hid (spans_of_own HO.out (by omega))
      have hltz : ¬ (i : Int) + 1 < (n : Int) := by omega
      clear hend hlen
      go_wp2
      go_ret
      exact ⟨_, rfl, HF.out, HB.out⟩
end Go.Proofs.Ytkldinppmnjmbaa
