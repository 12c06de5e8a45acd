/-
  TopKeeper walked.
  Conditions: the arguments read as words and as bytes.
-/
import Derived.Test.YtlnheknhdabhdaaKeeperWays
set_option linter.unusedVariables false
namespace Go.Proofs.Ytlnheknhdabhdaa
open Go.RowKit Go.Maps TU

set_option maxRecDepth 100000 in
set_option maxHeartbeats 16000000 in
theorem keeper_law (l bs : List Nat) (v u : Value) (w : World) (hv : WordsAt w v l) (hu : BytesAt w u bs) : Calls Try.prog 7 #[v, u] w (RetB (.bool true) w) := by
  have hmm := @run_makeMap Try.prog
  have HBEG := Lib.hid (fun W => begins_any W)
  have HNEW := Lib.hid (new_ok w 64 (by decide) (by decide))
  obtain ⟨A1, c1, rfl, _, _, _, h4, h5⟩ := hv
  have HWS := Lib.hid h4
  have HAT := Lib.hid h5
  have HDS := Lib.hid (bytes_all hu)
  obtain ⟨A2, c2, rfl, _, _, _, _, h6⟩ := hu
  have HDT := Lib.hid h6
  clear h4 h5 h6
  generalize hL : l.length = L at *
  generalize hK : bs.length = K at *
  have HL := Lib.hid hL
  have HK := Lib.hid hK
  clear hL hK
  go_enter Try.func7, Try.ntmps7
  go_wp2_with fail
  refine HNEW.out.mono ?_
  rintro e w1 hnew
  have HH1 := Lib.hid (Held.new (by decide) (by decide) (Below.refl _ _) (Nat.le_refl _) hnew)
  obtain ⟨rfl, _, _⟩ := hnew
  clear HNEW
  go_upto_region 5 with fail
  have HM2 := Lib.hid (kp_new (World.ownsMap_made w1 Try.prog 3 (plainElem (H := Unit) Try.prog 47)))
  have HH2 := Lib.hid (HH1.out.below (w' := w1.alloc (Obj.map #[] 0)) ((Below.refl _ _).alloc (Nat.le_refl _) _))
  have HNF := Lib.hid (show ¬ Foot w.heap.size (.slice none 0 0) (.slice none 0 0) w1.heap.size from fun hf => by have := HH1.out.lies.foot hf; omega)
  have HMB := Lib.hid (show w.heap.size ≤ w1.heap.size from HH1.out.hB)
  generalize w1.alloc (Obj.map #[] 0) = w2 at HM2 HH2 ⊢
  generalize hmb : w1.heap.size = mb at *
  clear HH1 hmb
  go_wp2_with fail
  go_loopg [8] L (fun g s8 wr => KRel L w.heap.size w w.heap.size mb g s8 wr)
  case atStart => exact ⟨0, _, _, _, _, Nat.zero_le _, Nat.zero_le _, rfl, rfl, HH2.out, rfl, Nat.le_refl _, fun j => Nat.zero_le _, HM2.out, HNF.out, fun j hj => by
    obtain ⟨i, _, hi, _⟩ := inU_iff.1 hj
    exact absurd hi (Nat.not_lt_zero i)⟩
  case round =>
    obtain ⟨i, sv, fv, s, D, hi, hi60, hgk, rfl, hheld, hsn, hcnt, hgen, hkp, hnf, hws⟩ := hrel
    have HG := Lib.hid hgk
    have H := Lib.hid hheld
    have HSN := Lib.hid hsn
    have HCN := Lib.hid hcnt
    have HGEN := Lib.hid hgen
    have KP := Lib.hid hkp
    have NF := Lib.hid hnf
    have HW := Lib.hid hws
    clear hgk hheld hsn hcnt hgen hkp hnf hws HH2 HM2 HNF
    by_cases hlt : i < L ∧ i < 60
    · obtain ⟨hlt, hl60⟩ := hlt
      obtain ⟨b, off, hA, hbl, hcell⟩ := HAT.out (by omega)
      subst hA
      obtain ⟨y, hy⟩ := ex_at (xs := l) (k := i) (by rw [HL.out]; exact hlt)
      have hyw := HWS.out y (List.mem_of_getElem? hy)
      have HC := Lib.hid (fun W (h : Below w.heap.size w W) => (h.cell (p := ⟨b, off + i, none⟩) hbl).trans (hcell i y hy))
      obtain ⟨s', k, g0, tk, htk⟩ := take_keep H.out.ok (y : Int) (by rw [HSN.out]; have := HCN.out; omega)
      have TK := Lib.hid tk
      have HTK := Lib.hid htk
      have HKB := Lib.hid (show k < 64 by have := tk.im; have := tk.ok.mn; have := tk.n; have := HSN.out; omega)
      have HS'M := Lib.hid (show s'.m ≤ 64 by have := tk.ok.mn; have := tk.n; have := HSN.out; omega)
      have HWF := Lib.hid (wf_word hyw)
      have hck := HC.out wr H.out.bel
      have hiz : (i : Int) < (L : Int) := by omega
      have hiz' : decide ((i : Int) < (L : Int)) = true := decide_eq_true hiz
      have hi0z : (0 : Int) ≤ (i : Int) := by omega
      have h60z : (i : Int) < 60 := by omega
      have h60z' : decide ((i : Int) < 60) = true := decide_eq_true h60z
      have KME := Lib.hid (show L - (i + 1) < gk by have := HG.out; omega)
      have KNX := Lib.hid (show i + 1 ≤ L ∧ i + 1 ≤ 60 by omega)
      obtain ⟨id, hid⟩ : ∃ x, k + 1 = x := ⟨_, rfl⟩
      rw [hid] at HTK
      have HID := Lib.hid hid
      clear hcell hy tk htk hid
      go_upto_region 9 with (go_at_call 17; refine (HTK.out _ _ _ _ H.out.lies).mono ?_; rintro e w3 hm3; obtain ⟨sv3, fv3, rfl, hh3, ha3, hg3, hg3'⟩ := H.out.mut TK.out.ok hm3; have H3 := Lib.hid hh3; have KP3 := Lib.hid (KP.out.keep (ha3.block mb KP.out.own.lt NF.out)); have NF3 := Lib.hid (show ¬ Foot w.heap.size sv3 fv3 mb from fun hf => NF.out (foot_grew hg3 hg3' KP.out.own.lt hf)); clear hm3 hh3 ha3 hg3 hg3' hck)
      have hck3 := HC.out w3 H3.out.bel
      have HKEY := Lib.hid (key_int (id : Int) (by omega) (by have := HID.out; have := HKB.out; omega))
      go_wp2_with (at_mapUpdate; refine wpList_mapUpdate_own _ rfl _ _ _ 48 rfl 3 47 keyedInt Try.underlying48 _ mb i D rfl KP3.out.own (by unfold maxLen; omega) _ _ (.int .i64 (id : Int)) rfl rfl HKEY.out (.lit (.int .u64 (y : Int))) [] (plainElem_int Try.underlying47 HWF.out) ?_)
      intro w4 hown4 hg4
      have KP4 := Lib.hid (KP3.out.took TK.out (by rw [HID.out]; exact hown4))
      have H4 := Lib.hid (H3.out.mapped hg4 NF3.out HMB.out)
      have HW4 := Lib.hid (HW.out.took TK.out hyw)
      have HN4 := Lib.hid (TK.out.n.trans HSN.out)
      have HC4 := Lib.hid (show cntU s'.use s'.m ≤ i + 1 by rw [TK.out.cnt]; have := HCN.out; omega)
      have HG4 : Hid (∀ j, s'.gen j ≤ i + 1) := Lib.hid (fun j => by
        rcases TK.out.gen j with h | h
        · rw [h]; exact HGEN.out j
        · rw [h]; omega)
      rw [HID.out] at KP4
      generalize D.put (.int .i64 (id : Int)) (.lit (.int .u64 (y : Int))) = D4 at KP4
      have KEND : Hid (∀ w5, Below w4.heap.size w4 w5 → KRel L w.heap.size w w.heap.size mb (L - (i + 1)) (.int .i64 ((i + 1 : Nat) : Int)) w5) := Lib.hid (fun w5 hb => ⟨i + 1, sv3, fv3, s', D4, KNX.out.1, KNX.out.2, rfl, rfl, H4.out.below hb, HN4.out, HC4.out, fun j => Nat.le_succ_of_le (HG4.out j), KP4.out.below hb, NF3.out, HW4.out⟩)
      clear hown4 hg4 hck3 KP3 H3 HTK TK HGEN HW HCN HKEY
      by_cases hd : i < K
      · obtain ⟨b2, o2, hA2, hbl2, hcell2⟩ := HDT.out (by omega)
        subst hA2
        obtain ⟨q, hq⟩ := ex_at (xs := bs) (k := i) (by rw [HK.out]; exact hd)
        have hqb := HDS.out q (List.mem_of_getElem? hq)
        have HC2 := Lib.hid (fun W (h : Below w.heap.size w W) => (h.cell (p := ⟨b2, o2 + i, none⟩) hbl2).trans (hcell2 i q hq))
        have hck4 := HC2.out w4 H4.out.bel
        have hdz : (i : Int) < (K : Int) := by omega
        have HFD := Lib.hid (find_any w4 _ sv3 fv3 s' (q : Int) H4.out.lies (by have := HS'M.out; omega))
        have HKQ := Lib.hid (key_int (q : Int) (by omega) (by omega))
        have hqw : wrap64 (q : Int) = (q : Int) := wrap64_small (by omega) (by omega)
        clear hcell2 hq hqb
        unfold findV at HFD
        by_cases hin : inU s' (q : Int) = true
        · rw [if_pos hin] at HFD
          obtain ⟨j, hqj, hj, huj⟩ := inU_some hin
          have hqn : (q : Int).toNat - 1 = j := by rw [Int.toNat_natCast]; omega
          rw [hqn] at HFD
          have HQJ := Lib.hid hqj
          have FE := Lib.hid (fell H4.out.ok hj huj)
          have HDR := Lib.hid (fun w5 (hb : Below w4.heap.size w4 w5) => drop_ok w5 _ sv3 fv3 s' j (H4.out.lies.below hb) (by have := HS'M.out; omega) (by rw [HN4.out]; decide) (by have := H4.out.ok.cnt; have := HS'M.out; omega) hj huj (by have := HG4.out j; omega))
          rw [← hqj] at HDR
          generalize s'.x j = xj at *
          generalize s'.gen j = gj at *
          clear hin hqj hqn hj huj KEND
          go_upto_region 15 with (go_at_call 18; refine HFD.out.mono ?_; rintro e w5 ⟨rfl, hb5⟩; have HB5 := Lib.hid hb5; have H5 := Lib.hid (H4.out.below hb5); have KP5 := Lib.hid (KP4.out.below hb5); have hck5 := HC2.out w5 H5.out.bel; clear hb5 hck4)
          go_upto_region 16 with (go_at_call 19; refine (HDR.out _ HB5.out).mono ?_; rintro e w6 hm6; obtain ⟨sv6, fv6, rfl, hh6, ha6, hg6, hg6'⟩ := H5.out.mut FE.out.ok hm6; have H6 := Lib.hid hh6; have KP6 := Lib.hid (KP5.out.keep (ha6.block mb KP5.out.own.lt NF3.out)); have NF6 := Lib.hid (show ¬ Foot w.heap.size sv6 fv6 mb from fun hf => NF3.out (foot_grew hg6 hg6' KP5.out.own.lt hf)); clear hm6 hh6 ha6 hg6 hg6' hck5)
          have hck6 := HC2.out w6 H6.out.bel
          obtain ⟨w7, hrun7, hown7, hturn7⟩ := KP6.out.own.drop keyedInt Try.underlying48 HKQ.out 0
          have H7 := Lib.hid (H6.out.mapped hturn7.grown NF6.out HMB.out)
          have KP7 := Lib.hid (KP6.out.fell FE.out (by rw [← HQJ.out]; exact hown7))
          clear hown7 hturn7
          go_wp2_with fail
          go_roundg (L - (i + 1))
          case measure => exact KME.out
          case rel => exact ⟨i + 1, sv6, fv6, _, _, KNX.out.1, KNX.out.2, rfl, by go_num, H7.out, FE.out.n.trans HN4.out, by have := FE.out.cnt; have := HC4.out; omega, fun j' => by
              rcases FE.out.gen j' with h | h
              · rw [h]; have := HG4.out j'; omega
              · rw [h]; have := HG4.out j'; omega, KP7.out, NF6.out, HW4.out.fell FE.out⟩
        · rw [if_neg hin] at HFD
          unfold findNone at HFD
          clear hin
          go_wp2_with (go_at_call 18; refine HFD.out.mono ?_; rintro e w5 ⟨rfl, hb5⟩; have HB5 := Lib.hid hb5; clear hb5 hck4)
          go_roundg (L - (i + 1))
          case measure => exact KME.out
          case rel =>
            have h := KEND.out _ HB5.out
            exact h
      · have hdz : ¬ (i : Int) < (K : Int) := by omega
        go_wp2_with fail
        go_roundg (L - (i + 1))
        case measure => exact KME.out
        case rel =>
          have h := KEND.out _ (Below.refl _ _)
          exact h
    · have HIDS := Lib.hid (ids_any wr _ sv fv s H.out.lies (by have := H.out.ok.mn; have := HSN.out; omega))
      have HM60 := Lib.hid (show cntU s.use s.m ≤ 60 by have := HCN.out; omega)
      obtain ⟨M, hM⟩ : ∃ x, cntU s.use s.m = x := ⟨_, rfl⟩
      have HMM := Lib.hid hM
      have HIL := Lib.hid (show (idsI s.use s.m).length = M by rw [idsI_length, hM])
      have HGL := Lib.hid (show (gsT s).length = M by rw [gsT_length, hM])
      have HGG := Lib.hid (gs_good H.out.ok HSN.out HW.out)
      have HAT2 := Lib.hid (fun j (hj : j < M) => id_at H.out.ok HSN.out HW.out (j := j) (by rw [HMM.out]; exact hj))
      have HFL := Lib.hid (fun j => flat_le HGG.out j)
      have HSM := Lib.hid (show s.m ≤ 64 by have := H.out.ok.mn; have := HSN.out; omega)
      clear hM
      by_cases hx : i < L
      · have z1 : (i : Int) < (L : Int) := by omega
        have z1' : decide ((i : Int) < (L : Int)) = true := decide_eq_true z1
        have z2 : ¬ (i : Int) < 60 := by omega
        have z2' : decide ((i : Int) < 60) = false := decide_eq_false z2
        clear hx
        go_wp2_with fail
        refine HIDS.out.mono ?_
        rintro e w5 ⟨v16, rfl, hints, hb5⟩
        have HI5 := Lib.hid hints
        have HB5 := Lib.hid hb5
        have H5 := Lib.hid (H.out.below hb5)
        have KP5 := Lib.hid (KP.out.below hb5)
        obtain ⟨A5, c5, rfl, _, hints3⟩ := hints
        rw [HIL.out] at hints3 ⊢
        have HIT := Lib.hid hints3
        clear hints3 hb5 HIDS
        go_wp2_with fail
        go_loopg [15, 17] M (fun g s15 s17 wr' => BRel (gsT s) M w5 g s15 s17 wr')
        case atStart => exact ⟨0, Nat.zero_le _, rfl, rfl, Below.refl _ _, by rw [List.take_zero]; exact Own.nil _ _⟩
        case round =>
          obtain ⟨j, hj, hgk, rfl, hbw, hown⟩ := hrel
          have HG2 := Lib.hid hgk
          have HBW := Lib.hid hbw
          have HO := Lib.hid hown
          have hszw := hbw.size
          clear hgk hown
          by_cases hlt : j < M
          · obtain ⟨t, x, k, _, hidj, htk, ht64, hk, huk, hin, hxw, hsx, hgs, hfv⟩ := HAT2.out j hlt
            obtain ⟨b5, o5, hA5, hb5l, hcell5⟩ := HIT.out (by omega)
            subst hA5
            have HC5 := Lib.hid (fun W (h : Below w5.heap.size w5 W) => (h.cell (p := ⟨b5, o5 + j, none⟩) hb5l).trans (hcell5 j _ hidj))
            have hck := HC5.out _ hbw
            have HTAB := Lib.hid (H5.out.lies.below hbw)
            have HFD := find_any _ _ sv fv s (t : Int) HTAB.out (by have := HSM.out; omega)
            rw [hfv] at HFD
            have HFD := Lib.hid HFD
            have HFT := Lib.hid (flat_take hgs)
            obtain ⟨e1, e2⟩ := tell_good (t := t) (x := x) (by omega) hxw
            have HE1 := Lib.hid e1
            have HE2 := Lib.hid e2
            have HXW := Lib.hid hxw
            have HT64 := Lib.hid ht64
            have hjz : (j : Int) < (M : Int) := by omega
            have hj0 : (0 : Int) ≤ (j : Int) := by omega
            have hjb : j < 60 := by have := HM60.out; have := HMM.out; omega
            have hwt : IntKind.u64.wrap (t : Int) = (t : Int) := by rw [IntKind.wrap_u64]; omega
            generalize s.gen k = gj at *
            clear hcell5 hidj htk hk huk hin hsx hgs hfv e1 e2 hbw hxw
            go_upto_region 23 with (go_at_call 18; refine HFD.out.mono ?_; rintro e w6 ⟨rfl, hb6⟩; have HB6 := Lib.hid (over2 HBW.out hb6); have HO6 := Lib.hid (HO.out.keep hb6); have hsz6 := HB6.out.size; clear hb6 hck)
            have hck6 := HC5.out w6 HB6.out
            have HLB := Lib.hid (show Below w6.heap.size w6 (w6.alloc (.cells #[.int .u64 t, .int .u64 x] 47)) from (Below.refl _ _).alloc (Nat.le_refl _) _)
            have HLW : Hid (WordsAt (w6.alloc (.cells #[.int .u64 t, .int .u64 x] 47)) (.slice (some ⟨w6.heap.size, 0, none⟩) 2 2) [t, x]) := Lib.hid (words_lit w6 [t, x] (by have := HXW.out; have := HT64.out; simp; omega) (by simp))
            go_wp2_with fail
            generalize w6.alloc (Obj.cells #[Value.int IntKind.u64 (t : Int), Value.int IntKind.u64 (x : Int)] 47) = w7 at HLB HLW ⊢
            refine (put_any _ _ [] [t, x] w7 (BytesAt.nil _) HLW.out (by simp) (by simp)).mono ?_
            rintro e w8 ⟨v8, rfl, hown8, hb8⟩
            have HB8 := Lib.hid (over2 (over2 HB6.out HLB.out) hb8)
            have HO8' := Lib.hid (HO6.out.keep (over2 HLB.out hb8))
            have HSEAL := Lib.hid (seal_ok v8 (encs [t, x]) w8 hown8.bytes HE1.out HE2.out)
            clear hown8 hb8 HLW HLB HO6 HB6 hck6
            go_wp2_with fail
            refine HSEAL.out.mono ?_
            rintro e w9 ⟨v9, rfl, hown9, hb9⟩
            have HB9 := Lib.hid (over2 HB8.out hb9)
            have HO9 := Lib.hid (HO8'.out.keep hb9)
            have HV9 := Lib.hid hown9.bytes
            have hsz9 := HB9.out.size
            have HLEN := Lib.hid (show (flatT ((gsT s).take j)).length + (sealT (encs [t, x])).length ≤ 1000000 by
              have h1 := HFL.out j
              have h2 := HGL.out
              have h3 := HE2.out
              have h4 := HM60.out
              have h5 := HMM.out
              rw [sealT_length]
              omega)
            clear hown9 hb9 HSEAL HO8' HB8
            go_wp2_with (at_builtin; refine wpList_append_bytes rfl _ _ 22 rfl w5.heap.size Try.underlying22 Try.infoByte _ (flatT ((gsT s).take j)) rfl HO9.out _ (sealT (encs [t, x])) rfl HV9.out HLEN.out hsz9 ?_)
            intro v10 w10 hown10 hb10
            have HO10 := Lib.hid hown10
            have HB10 := Lib.hid (HB9.out.trans hb10)
            clear hown10 hb10
            go_wp2_with fail
            go_roundg (M - (j + 1))
            case measure => have := HG2.out; omega
            case rel => exact ⟨j + 1, by omega, rfl, by go_num, HB10.out, by rw [HFT.out]; exact HO10.out⟩
          · have hjM : j = M := by omega
            have hjz : ¬ (j : Int) < (M : Int) := by omega
            have hall : (gsT s).take j = gsT s := List.take_of_length_le (by rw [HGL.out]; omega)
            have hown' := HO.out
            rw [hall] at hown'
            have HOF := Lib.hid hown'
            have HSP := Lib.hid (split_any _ _ _ hown'.bytes (by have h1 := HFL.out j; rw [hall] at h1; have h2 := HGL.out; have h4 := HM60.out; have h5 := HMM.out; omega))
            rw [split_goods HGG.out] at HSP
            clear hbw hall hown'
            go_wp2_with fail
            refine HSP.out.mono ?_
            rintro e w7 ⟨v23, rl, rfl, hm7, hra7, hb7⟩
            have HB7 := Lib.hid (over2 HBW.out hb7)
            have HM7 := Lib.hid hm7
            have KP7 := Lib.hid (KP5.out.below HB7.out)
            have hrl : rl.length = M := by rw [← List.length_map (f := Prod.fst), hm7, recsT_length, HGL.out]
            obtain ⟨A7, c7, rfl, _, _, q3, q4⟩ := hra7
            rw [hrl] at *
            have HAT7 := Lib.hid q3
            have HBD7 := Lib.hid q4
            have hlen := fun ty => KP7.out.len ty
            rw [HMM.out] at hlen
            clear hm7 hb7 q3 q4 hrl HSP
            go_upto_region 30 with fail
            clear hlen
            go_wp2_with fail
            go_loopg [24] M (fun g s24 wr' => CRel M w7 g s24 wr')
            case atStart => exact ⟨0, Nat.zero_le _, rfl, rfl, Below.refl _ _⟩
            case round =>
              obtain ⟨j, hj, hgk, rfl, hbw⟩ := hrel
              have HG3 := Lib.hid hgk
              have HBW3 := Lib.hid hbw
              have hszw := hbw.size
              clear hgk
              by_cases hlt : j < M
              · obtain ⟨t, x, k, _, hidj, htk, ht64, hk, huk, _, hxw, hsx, hgs, _⟩ := HAT2.out j hlt
                obtain ⟨b5, o5, hA5, hb5l, hcell5⟩ := HIT.out (by omega)
                subst hA5
                obtain ⟨g7, hA7, hg7, hcell7⟩ := HAT7.out (by omega)
                subst hA7
                obtain ⟨b', n', hrj⟩ := recsT_at (gsT s) 0 j _ hgs
                obtain ⟨u7, hlu⟩ := fst_at HM7.out hrj
                obtain ⟨_, _, k2, _⟩ := hcell7 j _ hlu
                have j2 := (hbw.cell (p := ⟨g7, j * 4 + 2, none⟩) hg7).trans k2
                have hbody : BytesAt _ u7 (encs [t, x]) := (HBD7.out _ (List.mem_of_getElem? hlu)).keep hbw
                have HC5 := Lib.hid (fun W (h : Below w7.heap.size w7 W) => ((HB7.out.trans (h.mono HB7.out.size)).cell (p := ⟨b5, o5 + j, none⟩) hb5l).trans (hcell5 j _ hidj))
                have HE2 := (tell_good (t := t) (x := x) (by omega) hxw).2
                have HOPEN := Lib.hid (open_any u7 (encs [t, x]) _ (by omega) hbody)
                have HLK := Lib.hid (fun W (h : Below w7.heap.size w7 W) => (KP7.out.below h).look htk ht64 hk huk hsx)
                have HN1 := Lib.hid (num_most (y := t) (most := 1024) (by omega) (by omega) (enc x))
                have HN2 := Lib.hid (num_most (y := x) (most := 18446744073709551615) hxw (by omega) [])
                have hjz : (j : Int) < (M : Int) := by omega
                have hj0 : (0 : Int) ≤ (j : Int) := by omega
                have hjb : j < 60 := by have := HM60.out; have := HMM.out; omega
                have hwt : wrap64 (t : Int) = (t : Int) := wrap64_small (by omega) (by omega)
                simp only at j2
                rw [encs_two] at HOPEN
                obtain ⟨B1, n1, d1, rfl⟩ : ∃ A n c, u7 = .slice A n c := by obtain ⟨A, c, e, _⟩ := hbody; exact ⟨A, _, c, e⟩
                clear hcell5 hidj htk hk huk hsx hgs hrj hlu k2 hbody HE2 hcell7 hbw ht64 hxw
                go_wp2_with fail
                refine HOPEN.out.mono ?_
                rintro e w8 ⟨g3, rfl, hg3, hb8, hr8⟩
                have HB8 := Lib.hid (over2 HBW3.out hb8)
                have HG8 := Lib.hid (show w7.heap.size ≤ g3 by omega)
                have HR8 := Lib.hid hr8
                have HRD1 := read_any g3 (enc t ++ enc x) 0 1024 w8 (by decide) hr8
                rw [HN1.out] at HRD1
                have HRD1 := Lib.hid HRD1
                clear hg3 hb8 hr8 HOPEN j2
                go_wp2_with fail
                refine HRD1.out.mono ?_
                rintro e w9 ⟨rfl, ha9, hr9⟩
                have HB9 := Lib.hid (apart_over HB8.out ha9 HB8.out.size HG8.out)
                have HN2' := HN2.out
                rw [List.append_nil] at HN2'
                have HRD2 := read_any g3 (enc x) 0 18446744073709551615 w9 (by decide) hr9
                rw [HN2'] at HRD2
                have HRD2 := Lib.hid HRD2
                clear ha9 hr9 HRD1 HN2' HN1 HR8
                go_wp2_with fail
                refine HRD2.out.mono ?_
                rintro e w10 ⟨rfl, ha10, hr10⟩
                have HB10 := Lib.hid (apart_over HB9.out ha10 HB9.out.size HG8.out)
                have HEND := Lib.hid (end_any g3 [] 0 w10 hr10)
                have hlk := HLK.out w10 HB10.out
                have hck := HC5.out w10 HB10.out
                clear ha10 hr10 HRD2 HN2
                go_wp2_with (go_at_call 24; refine HEND.out.mono ?_; rintro e w' ⟨rfl, rfl⟩)
                go_roundg (M - (j + 1))
                case measure => have := HG3.out; omega
                case rel => exact ⟨j + 1, by omega, rfl, by go_num, HB10.out⟩
              · have hjz : ¬ (j : Int) < (M : Int) := by omega
                clear hbw
                go_wp2_with (go_at_call 25; refine (HBEG.out _).mono ?_; rintro e w' ⟨rfl, hb⟩)
                go_ret
                exact ⟨rfl, ((H5.out.bel.trans (HB7.out.mono H5.out.hB)).trans ((over2 HBW3.out hb).mono (Nat.le_trans H5.out.hB HB7.out.size)))⟩
      · have z1 : ¬ (i : Int) < (L : Int) := by omega
        have z1' : decide ((i : Int) < (L : Int)) = false := decide_eq_false z1
        clear hx
        go_wp2_with fail
        refine HIDS.out.mono ?_
        rintro e w5 ⟨v16, rfl, hints, hb5⟩
        have HI5 := Lib.hid hints
        have HB5 := Lib.hid hb5
        have H5 := Lib.hid (H.out.below hb5)
        have KP5 := Lib.hid (KP.out.below hb5)
        obtain ⟨A5, c5, rfl, _, hints3⟩ := hints
        rw [HIL.out] at hints3 ⊢
        have HIT := Lib.hid hints3
        clear hints3 hb5 HIDS
        go_wp2_with fail
        go_loopg [15, 17] M (fun g s15 s17 wr' => BRel (gsT s) M w5 g s15 s17 wr')
        case atStart => exact ⟨0, Nat.zero_le _, rfl, rfl, Below.refl _ _, by rw [List.take_zero]; exact Own.nil _ _⟩
        case round =>
          obtain ⟨j, hj, hgk, rfl, hbw, hown⟩ := hrel
          have HG2 := Lib.hid hgk
          have HBW := Lib.hid hbw
          have HO := Lib.hid hown
          have hszw := hbw.size
          clear hgk hown
          by_cases hlt : j < M
          · obtain ⟨t, x, k, _, hidj, htk, ht64, hk, huk, hin, hxw, hsx, hgs, hfv⟩ := HAT2.out j hlt
            obtain ⟨b5, o5, hA5, hb5l, hcell5⟩ := HIT.out (by omega)
            subst hA5
            have HC5 := Lib.hid (fun W (h : Below w5.heap.size w5 W) => (h.cell (p := ⟨b5, o5 + j, none⟩) hb5l).trans (hcell5 j _ hidj))
            have hck := HC5.out _ hbw
            have HTAB := Lib.hid (H5.out.lies.below hbw)
            have HFD := find_any _ _ sv fv s (t : Int) HTAB.out (by have := HSM.out; omega)
            rw [hfv] at HFD
            have HFD := Lib.hid HFD
            have HFT := Lib.hid (flat_take hgs)
            obtain ⟨e1, e2⟩ := tell_good (t := t) (x := x) (by omega) hxw
            have HE1 := Lib.hid e1
            have HE2 := Lib.hid e2
            have HXW := Lib.hid hxw
            have HT64 := Lib.hid ht64
            have hjz : (j : Int) < (M : Int) := by omega
            have hj0 : (0 : Int) ≤ (j : Int) := by omega
            have hjb : j < 60 := by have := HM60.out; have := HMM.out; omega
            have hwt : IntKind.u64.wrap (t : Int) = (t : Int) := by rw [IntKind.wrap_u64]; omega
            generalize s.gen k = gj at *
            clear hcell5 hidj htk hk huk hin hsx hgs hfv e1 e2 hbw hxw
            go_upto_region 23 with (go_at_call 18; refine HFD.out.mono ?_; rintro e w6 ⟨rfl, hb6⟩; have HB6 := Lib.hid (over2 HBW.out hb6); have HO6 := Lib.hid (HO.out.keep hb6); have hsz6 := HB6.out.size; clear hb6 hck)
            have hck6 := HC5.out w6 HB6.out
            have HLB := Lib.hid (show Below w6.heap.size w6 (w6.alloc (.cells #[.int .u64 t, .int .u64 x] 47)) from (Below.refl _ _).alloc (Nat.le_refl _) _)
            have HLW : Hid (WordsAt (w6.alloc (.cells #[.int .u64 t, .int .u64 x] 47)) (.slice (some ⟨w6.heap.size, 0, none⟩) 2 2) [t, x]) := Lib.hid (words_lit w6 [t, x] (by have := HXW.out; have := HT64.out; simp; omega) (by simp))
            go_wp2_with fail
            generalize w6.alloc (Obj.cells #[Value.int IntKind.u64 (t : Int), Value.int IntKind.u64 (x : Int)] 47) = w7 at HLB HLW ⊢
            refine (put_any _ _ [] [t, x] w7 (BytesAt.nil _) HLW.out (by simp) (by simp)).mono ?_
            rintro e w8 ⟨v8, rfl, hown8, hb8⟩
            have HB8 := Lib.hid (over2 (over2 HB6.out HLB.out) hb8)
            have HO8' := Lib.hid (HO6.out.keep (over2 HLB.out hb8))
            have HSEAL := Lib.hid (seal_ok v8 (encs [t, x]) w8 hown8.bytes HE1.out HE2.out)
            clear hown8 hb8 HLW HLB HO6 HB6 hck6
            go_wp2_with fail
            refine HSEAL.out.mono ?_
            rintro e w9 ⟨v9, rfl, hown9, hb9⟩
            have HB9 := Lib.hid (over2 HB8.out hb9)
            have HO9 := Lib.hid (HO8'.out.keep hb9)
            have HV9 := Lib.hid hown9.bytes
            have hsz9 := HB9.out.size
            have HLEN := Lib.hid (show (flatT ((gsT s).take j)).length + (sealT (encs [t, x])).length ≤ 1000000 by
              have h1 := HFL.out j
              have h2 := HGL.out
              have h3 := HE2.out
              have h4 := HM60.out
              have h5 := HMM.out
              rw [sealT_length]
              omega)
            clear hown9 hb9 HSEAL HO8' HB8
            go_wp2_with (at_builtin; refine wpList_append_bytes rfl _ _ 22 rfl w5.heap.size Try.underlying22 Try.infoByte _ (flatT ((gsT s).take j)) rfl HO9.out _ (sealT (encs [t, x])) rfl HV9.out HLEN.out hsz9 ?_)
            intro v10 w10 hown10 hb10
            have HO10 := Lib.hid hown10
            have HB10 := Lib.hid (HB9.out.trans hb10)
            clear hown10 hb10
            go_wp2_with fail
            go_roundg (M - (j + 1))
            case measure => have := HG2.out; omega
            case rel => exact ⟨j + 1, by omega, rfl, by go_num, HB10.out, by rw [HFT.out]; exact HO10.out⟩
          · have hjM : j = M := by omega
            have hjz : ¬ (j : Int) < (M : Int) := by omega
            have hall : (gsT s).take j = gsT s := List.take_of_length_le (by rw [HGL.out]; omega)
            have hown' := HO.out
            rw [hall] at hown'
            have HOF := Lib.hid hown'
            have HSP := Lib.hid (split_any _ _ _ hown'.bytes (by have h1 := HFL.out j; rw [hall] at h1; have h2 := HGL.out; have h4 := HM60.out; have h5 := HMM.out; omega))
            rw [split_goods HGG.out] at HSP
            clear hbw hall hown'
            go_wp2_with fail
            refine HSP.out.mono ?_
            rintro e w7 ⟨v23, rl, rfl, hm7, hra7, hb7⟩
            have HB7 := Lib.hid (over2 HBW.out hb7)
            have HM7 := Lib.hid hm7
            have KP7 := Lib.hid (KP5.out.below HB7.out)
            have hrl : rl.length = M := by rw [← List.length_map (f := Prod.fst), hm7, recsT_length, HGL.out]
            obtain ⟨A7, c7, rfl, _, _, q3, q4⟩ := hra7
            rw [hrl] at *
            have HAT7 := Lib.hid q3
            have HBD7 := Lib.hid q4
            have hlen := fun ty => KP7.out.len ty
            rw [HMM.out] at hlen
            clear hm7 hb7 q3 q4 hrl HSP
            go_upto_region 30 with fail
            clear hlen
            go_wp2_with fail
            go_loopg [24] M (fun g s24 wr' => CRel M w7 g s24 wr')
            case atStart => exact ⟨0, Nat.zero_le _, rfl, rfl, Below.refl _ _⟩
            case round =>
              obtain ⟨j, hj, hgk, rfl, hbw⟩ := hrel
              have HG3 := Lib.hid hgk
              have HBW3 := Lib.hid hbw
              have hszw := hbw.size
              clear hgk
              by_cases hlt : j < M
              · obtain ⟨t, x, k, _, hidj, htk, ht64, hk, huk, _, hxw, hsx, hgs, _⟩ := HAT2.out j hlt
                obtain ⟨b5, o5, hA5, hb5l, hcell5⟩ := HIT.out (by omega)
                subst hA5
                obtain ⟨g7, hA7, hg7, hcell7⟩ := HAT7.out (by omega)
                subst hA7
                obtain ⟨b', n', hrj⟩ := recsT_at (gsT s) 0 j _ hgs
                obtain ⟨u7, hlu⟩ := fst_at HM7.out hrj
                obtain ⟨_, _, k2, _⟩ := hcell7 j _ hlu
                have j2 := (hbw.cell (p := ⟨g7, j * 4 + 2, none⟩) hg7).trans k2
                have hbody : BytesAt _ u7 (encs [t, x]) := (HBD7.out _ (List.mem_of_getElem? hlu)).keep hbw
                have HC5 := Lib.hid (fun W (h : Below w7.heap.size w7 W) => ((HB7.out.trans (h.mono HB7.out.size)).cell (p := ⟨b5, o5 + j, none⟩) hb5l).trans (hcell5 j _ hidj))
                have HE2 := (tell_good (t := t) (x := x) (by omega) hxw).2
                have HOPEN := Lib.hid (open_any u7 (encs [t, x]) _ (by omega) hbody)
                have HLK := Lib.hid (fun W (h : Below w7.heap.size w7 W) => (KP7.out.below h).look htk ht64 hk huk hsx)
                have HN1 := Lib.hid (num_most (y := t) (most := 1024) (by omega) (by omega) (enc x))
                have HN2 := Lib.hid (num_most (y := x) (most := 18446744073709551615) hxw (by omega) [])
                have hjz : (j : Int) < (M : Int) := by omega
                have hj0 : (0 : Int) ≤ (j : Int) := by omega
                have hjb : j < 60 := by have := HM60.out; have := HMM.out; omega
                have hwt : wrap64 (t : Int) = (t : Int) := wrap64_small (by omega) (by omega)
                simp only at j2
                rw [encs_two] at HOPEN
                obtain ⟨B1, n1, d1, rfl⟩ : ∃ A n c, u7 = .slice A n c := by obtain ⟨A, c, e, _⟩ := hbody; exact ⟨A, _, c, e⟩
                clear hcell5 hidj htk hk huk hsx hgs hrj hlu k2 hbody HE2 hcell7 hbw ht64 hxw
                go_wp2_with fail
                refine HOPEN.out.mono ?_
                rintro e w8 ⟨g3, rfl, hg3, hb8, hr8⟩
                have HB8 := Lib.hid (over2 HBW3.out hb8)
                have HG8 := Lib.hid (show w7.heap.size ≤ g3 by omega)
                have HR8 := Lib.hid hr8
                have HRD1 := read_any g3 (enc t ++ enc x) 0 1024 w8 (by decide) hr8
                rw [HN1.out] at HRD1
                have HRD1 := Lib.hid HRD1
                clear hg3 hb8 hr8 HOPEN j2
                go_wp2_with fail
                refine HRD1.out.mono ?_
                rintro e w9 ⟨rfl, ha9, hr9⟩
                have HB9 := Lib.hid (apart_over HB8.out ha9 HB8.out.size HG8.out)
                have HN2' := HN2.out
                rw [List.append_nil] at HN2'
                have HRD2 := read_any g3 (enc x) 0 18446744073709551615 w9 (by decide) hr9
                rw [HN2'] at HRD2
                have HRD2 := Lib.hid HRD2
                clear ha9 hr9 HRD1 HN2' HN1 HR8
                go_wp2_with fail
                refine HRD2.out.mono ?_
                rintro e w10 ⟨rfl, ha10, hr10⟩
                have HB10 := Lib.hid (apart_over HB9.out ha10 HB9.out.size HG8.out)
                have HEND := Lib.hid (end_any g3 [] 0 w10 hr10)
                have hlk := HLK.out w10 HB10.out
                have hck := HC5.out w10 HB10.out
                clear ha10 hr10 HRD2 HN2
                go_wp2_with (go_at_call 24; refine HEND.out.mono ?_; rintro e w' ⟨rfl, rfl⟩)
                go_roundg (M - (j + 1))
                case measure => have := HG3.out; omega
                case rel => exact ⟨j + 1, by omega, rfl, by go_num, HB10.out⟩
              · have hjz : ¬ (j : Int) < (M : Int) := by omega
                clear hbw
                go_wp2_with (go_at_call 25; refine (HBEG.out _).mono ?_; rintro e w' ⟨rfl, hb⟩)
                go_ret
                exact ⟨rfl, ((H5.out.bel.trans (HB7.out.mono H5.out.hB)).trans ((over2 HBW3.out hb).mono (Nat.le_trans H5.out.hB HB7.out.size)))⟩
end Go.Proofs.Ytlnheknhdabhdaa
