/-
  The law of first fit: FfdFits.
  Conditions: the slices read as places, as wants; the numbers are of their kinds.
-/
import Derived.Test.YtiadnpipbocecaaGreatM24
import Derived.Test.YtiadnpipbocecaaGreatM26

/-
  The law of first fit: FfdFits.
  Conditions: the slices read as places, as wants; the numbers are of their kinds.
-/
set_option linter.unusedVariables false
set_option linter.unusedSimpArgs false
namespace Go.Proofs.YtiadnpipbocecaaGreat
open Go.RowKit

set_option maxRecDepth 100000 in
set_option maxHeartbeats 16000000 in
theorem fits_law (f : Int) (m : Nat) (v : Value) (l : List Pl) (vw : Value) (ps : List Sp) (s : Int) (w : World) (h : PlsAt w v l) (ho : ∀ x ∈ l, PlOk x) (hm : m < 4294967296) (hv : ArgAt w vw ps) (hi : IntsS ps) :
    Calls Tryz.prog 3 #[planA f m v, vw, .int .i64 s] w (RetB (.bool true) w) := by
  have HAW := Lib.hid (fun W => awake_any W)
  obtain ⟨A, cA, rfl, hlc, hcm⟩ := h.form
  obtain ⟨nl, hnl⟩ : ∃ nl, l.length = nl := ⟨_, rfl⟩
  rw [hnl] at h hlc ⊢
  have harg := hv
  obtain ⟨B, d, rfl, hc1, hc2, hnil, _⟩ := hv
  have hs := harg.cut 60 (by decide)
  have hi' := hi.take 60
  have hlq : (ps.take 60).length = min ps.length 60 := by rw [List.length_take, Nat.min_comm]
  have hmn : min (ps.length : Int) 60 = ((min ps.length 60 : Nat) : Int) := by omega
  have hmle : min ps.length 60 ≤ ps.length := Nat.min_le_left _ _
  have hm60 : min ps.length 60 ≤ 60 := Nat.min_le_right _ _
  generalize ps.take 60 = qs at *
  generalize ps.length = n at *
  generalize min n 60 = q at *
  have hmc : (q : Int) ≤ (d : Int) := by omega
  have hm0 : (0 : Int) ≤ (q : Int) := by omega
  obtain ⟨w1, P, hw1, hP, hPl, hb1, hbox⟩ := box_any w #[.int .i64 f, .int .u32 m, .slice A nl cA] 25
  have HB1 := Lib.hid hb1
  have HBOX := Lib.hid hbox
  have HH : Hid (∀ W, Below w1.heap.size w1 W → PlsAt W (.slice A nl cA) l) := Lib.hid (fun W hk => h.keep (HB1.out.trans (hk.mono HB1.out.size)))
  have HS : Hid (∀ W, Below w1.heap.size w1 W → SpansAt W (.slice B q d) qs) := Lib.hid (fun W hk => hs.keep (HB1.out.trans (hk.mono HB1.out.size)))
  have HLI := Lib.hid (fun W (hk : Below w1.heap.size w1 W) => calls_iff (light_any f m (.slice A nl cA) l W (HH.out W hk)))
  have HK1 := Lib.hid (Below.refl w1.heap.size w1)
  obtain ⟨r0, r1, r2⟩ := three_heads hbox
  unfold planA at HLI ⊢
  by_cases hlit : Lit l
  · have hL := hlit.light ho
    have HLY := Lib.hid (fun W hk => (HLI.out W hk).1 hlit)
    have hll : l.length + qs.length ≤ 300 := by have := hlit.2; omega
    have HLN := Lib.hid hll
    have HFT := Lib.hid (fun W hk => fit_any f m (.slice A nl cA) l (.slice B q d) qs W (HH.out W hk) hL (HS.out W hk) hi' hm hll)
    have HWY := Lib.hid (fun W hk => refWhy_any f m (.slice A nl cA) l (.slice B q d) qs W (HH.out W hk) hL (HS.out W hk) hi' hm)
    have HRI := Lib.hid (fun W hk => calls_iff (right_any f m (.slice A nl cA) l W (HH.out W hk) hL hm))
    have HFY := Lib.hid (fun hr hs W hk => firstP_yes f m (.slice A nl cA) l s W (HH.out W hk) hL hr hs)
    have HFN := Lib.hid (fun hn W hk => firstP_no f m (.slice A nl cA) l s W (HH.out W hk) hL hm hn)
    have HRY := Lib.hid (fun hr hs W hk => refFirst_any f m (.slice A nl cA) l s W (HH.out W hk) hL hr hs)
    have HLO := Lib.hid hL
    unfold planA at HFT HWY HRI HFY HFN HRY
    clear h hb1 hbox harg hi hs hnil hnl hlq HLI hlit hL ho hi' hll
    by_cases hr : Right f m l
    · have HRT := Lib.hid (fun W hk => (HRI.out W hk).1 hr)
      by_cases h1 : 1 ≤ s
      · have HFC := Lib.hid (HFY.out hr h1)
        have HRC := Lib.hid (HRY.out hr h1)
        have h1d : decide (1 ≤ s) = true := decide_eq_true h1
        obtain ⟨o, ho⟩ : ∃ o, firstR f m l s = o := ⟨_, rfl⟩
        rw [ho] at HFC HRC
        clear HRI HFY HFN HRY hr ho
        unfold coreV at HFC
        unfold coreR at HRC
        cases o with
        | none =>
          simp only [Option.getD, Option.isSome] at HFC HRC
          go_enter Tryz.func3, Tryz.ntmps3
          go_wp2_with fail
          refine (HLY.out _ HK1.out).mono ?_
          rintro e w2 ⟨rfl, hb2⟩
          have HK2 := Lib.hid (HK1.out.trans (hb2.mono HK1.out.size))
          clear hb2
          (try clear r0 r1 r2)
          obtain ⟨r0, r1, r2⟩ := three_heads (keep_block HBOX.out HK2.out)
          go_wp2_with fail
          refine (HFC.out _ HK2.out).mono ?_
          rintro e w3 ⟨rfl, hb3⟩
          have HK3 := Lib.hid (HK2.out.trans (hb3.mono HK2.out.size))
          clear hb3
          (try clear r0 r1 r2)
          obtain ⟨r0, r1, r2⟩ := three_heads (keep_block HBOX.out HK3.out)
          go_wp2_with fail
          refine (HRT.out _ HK3.out).mono ?_
          rintro e w4 ⟨rfl, hb4⟩
          have HK4 := Lib.hid (HK3.out.trans (hb4.mono HK3.out.size))
          clear hb4
          (try clear r0 r1 r2)
          obtain ⟨r0, r1, r2⟩ := three_heads (keep_block HBOX.out HK4.out)
          go_wp2_with fail
          refine (HRC.out _ HK4.out).mono ?_
          rintro e w5 ⟨rfl, hb5⟩
          have HK5 := Lib.hid (HK4.out.trans (hb5.mono HK4.out.size))
          clear hb5
          (try clear r0 r1 r2)
          obtain ⟨r0, r1, r2⟩ := three_heads (keep_block HBOX.out HK5.out)
          go_wp2_with fail
          refine (HFT.out _ HK5.out).mono ?_
          rintro e w6 ⟨E, hwhy, hb6, hcase⟩
          have HK6 := Lib.hid (HK5.out.trans (hb6.mono HK5.out.size))
          have HWH := Lib.hid hwhy
          (try clear r0 r1 r2)
          obtain ⟨r0, r1, r2⟩ := three_heads (keep_block HBOX.out HK6.out)
          rcases hcase with ⟨hE0, v3, vo, rfl, hpl, hov⟩ | ⟨hE0, rfl⟩
          · subst hE0
            have HGO := Lib.hid HWH.out.zero
            have HRF := Lib.hid (fun W hk => refFit_any f m (.slice A nl cA) l (.slice B q d) qs W (HH.out W hk) HLO.out (HS.out W hk) HGO.out HLN.out)
            obtain ⟨st, hst⟩ : ∃ st, fitT f m l (sortT qs) = st := ⟨_, rfl⟩
            unfold RetFitR at HRF
            rw [hst] at hpl hov HRF
            obtain ⟨Lq, O⟩ := st
            simp only at hpl hov HRF
            obtain ⟨A3, d3, hv3, _, _⟩ := hpl.form
            obtain ⟨n3, hn3⟩ : ∃ n3, Lq.length = n3 := ⟨_, rfl⟩
            rw [hn3] at hv3
            subst hv3
            obtain ⟨w7, Q, hw7, hQ, hQl, hb7, hqb⟩ := box_any w6 #[.int .i64 0, .int .u32 0, .slice none 0 0] 25
            have HQB := Lib.hid hqb
            obtain ⟨w8, hw8⟩ : ∃ w8, w7.setRow Q #[.int .i64 f, .int .u32 m, .slice A3 n3 d3] = w8 := ⟨_, rfl⟩
            have hb8 : Below w6.heap.size w6 w8 := by rw [← hw8]; exact below_row hb7 (by omega) _
            have HK8 := Lib.hid (HK6.out.trans (hb8.mono HK6.out.size))
            have HQC : Hid (∀ W, Below w8.heap.size w8 W → W.cell? ⟨Q, 0, none⟩ = some (.int .i64 f) ∧ W.cell? ⟨Q, 1, none⟩ = some (.int .u32 m) ∧ W.cell? ⟨Q, 2, none⟩ = some (.slice A3 n3 d3)) := Lib.hid (by
              have hq : w8.heap[Q]? = some (.cells #[.int .i64 f, .int .u32 m, .slice A3 n3 d3] 25 (0, 0)) := by rw [← hw8]; exact setRow_heap _ _ _ _ _ _ hqb
              exact fun W hk => three_heads (keep_block hq hk))
            have HPQ := Lib.hid (hpl.any.keep hb8)
            have HOQ := Lib.hid (hov.keep hb8)
            clear hpl hov hb6 hb7 hb8 hqb hst hwhy hn3
            (try clear r0 r1 r2)
            obtain ⟨r0, r1, r2⟩ := three_heads (keep_block HBOX.out HK8.out)
            go_wp2_with (refine wpList_store_row rfl _ _ _ rfl Q #[.int .i64 f, .int .u32 m, .slice A3 n3 d3] rfl rfl 25 _ HQB.out (Tryz.sizePn _ _ _) rfl (one3 _ _ _ _ _) ?_)
            refine (HWY.out _ HK8.out).mono ?_
            rintro e w9 ⟨E', rfl, hwhy', hb9⟩
            have hEE : E' = 0 := hwhy'.unique HWH.out
            subst hEE
            have HK9 := Lib.hid (HK8.out.trans (hb9.mono HK8.out.size))
            have HKc := Lib.hid hb9
            clear hb9 hwhy' hw8 hw7 hQ
            (try clear r0 r1 r2)
            obtain ⟨r0, r1, r2⟩ := three_heads (keep_block HBOX.out HK9.out)
            go_wp2_with fail
            refine (HRF.out _ HK9.out).mono ?_
            rintro e w10 ⟨v5, vo5, rfl, hp5, ho5, hb10⟩
            have HK10 := Lib.hid (HK9.out.trans (hb10.mono HK9.out.size))
            have HKc2 := Lib.hid (HKc.out.trans (hb10.mono HKc.out.size))
            obtain ⟨A5, d5, hv5, _, _⟩ := hp5.form
            obtain ⟨n5, hn5⟩ : ∃ n5, Lq.length = n5 := ⟨_, rfl⟩
            rw [hn5] at hv5
            subst hv5
            obtain ⟨w11, Z, hw11, hZ, hZl, hb11, hzb⟩ := box_any w10 #[.int .i64 0, .int .u32 0, .slice none 0 0] 25
            have HZB := Lib.hid hzb
            obtain ⟨w12, hw12⟩ : ∃ w12, w11.setRow Z #[.int .i64 f, .int .u32 m, .slice A5 n5 d5] = w12 := ⟨_, rfl⟩
            have hb12 : Below w10.heap.size w10 w12 := by rw [← hw12]; exact below_row hb11 (by omega) _
            have HK12 := Lib.hid (HK10.out.trans (hb12.mono HK10.out.size))
            have HKc3 := Lib.hid (HKc2.out.trans (hb12.mono HKc2.out.size))
            have hz : w12.heap[Z]? = some (.cells #[.int .i64 f, .int .u32 m, .slice A5 n5 d5] 25 (0, 0)) := by rw [← hw12]; exact setRow_heap _ _ _ _ _ _ hzb
            have HSM := Lib.hid (refSame_any f m (.slice A3 n3 d3) Lq f m (.slice A5 n5 d5) Lq w12 (HPQ.out.keep HKc3.out) (hp5.keep hb12))
            rw [show sameB f m Lq f m Lq = true from decide_eq_true ⟨rfl, rfl, rfl⟩] at HSM
            have HSO := Lib.hid (fun W (hk : Below w12.heap.size w12 W) => same_any vo vo5 O W (HOQ.out.keep (HKc3.out.trans (hk.mono HKc3.out.size))) ((ho5.keep hb12).keep hk))
            unfold planA at HSM
            obtain ⟨q0, q1, q2⟩ := HQC.out _ HKc3.out
            obtain ⟨z0, z1, z2⟩ := three_heads hz
            clear hp5 ho5 hb10 hb11 hb12 hzb hz hn5 r0 r1 r2
            go_wp2_with (refine wpList_store_row rfl _ _ _ rfl Z #[.int .i64 f, .int .u32 m, .slice A5 n5 d5] rfl rfl 25 _ HZB.out (Tryz.sizePn _ _ _) rfl (one3 _ _ _ _ _) ?_)
            refine HSM.out.mono ?_
            rintro e w13 ⟨rfl, hb13⟩
            have HK13 := Lib.hid (HK12.out.trans (hb13.mono HK12.out.size))
            have HSO2 := Lib.hid (HSO.out _ hb13)
            clear hb13 q0 q1 q2 z0 z1 z2 hw11 hw12
            go_wp2_with fail
            refine HSO2.out.mono ?_
            rintro e w14 ⟨rfl, hb14⟩
            have HK14 := Lib.hid (HK13.out.trans (hb14.mono HK13.out.size))
            clear hb14
            go_wp2_with fail
            refine (HAW.out _).mono ?_
            rintro e w15 ⟨rfl, hb15⟩
            have HK15 := Lib.hid (HK14.out.trans (hb15.mono HK14.out.size))
            clear hb15
            go_wp2_with fail
            go_ret
            exact ⟨rfl, HB1.out.trans (HK15.out.mono HB1.out.size)⟩
          · have hb0 : (E != 0) = true := by simpa using hE0
            have hee : (E == E) = true := by simp
            clear hwhy hE0
            obtain ⟨w7, Q, hw7, hQ, hQl, hb7, hqb⟩ := box_any w6 #[.int .i64 0, .int .u32 0, .slice none 0 0] 25
            have HQB := Lib.hid hqb
            obtain ⟨w8, hw8⟩ : ∃ w8, w7.setRow Q #[.int .i64 0, .int .u32 0, .slice none 0 0] = w8 := ⟨_, rfl⟩
            have hb8 : Below w6.heap.size w6 w8 := by rw [← hw8]; exact below_row hb7 (by omega) _
            have HK8 := Lib.hid (HK6.out.trans (hb8.mono HK6.out.size))
            have HQC : Hid (∀ W, Below w8.heap.size w8 W → W.cell? ⟨Q, 0, none⟩ = some (.int .i64 0) ∧ W.cell? ⟨Q, 1, none⟩ = some (.int .u32 0) ∧ W.cell? ⟨Q, 2, none⟩ = some (.slice none 0 0)) := Lib.hid (by
              have hq : w8.heap[Q]? = some (.cells #[.int .i64 0, .int .u32 0, .slice none 0 0] 25 (0, 0)) := by rw [← hw8]; exact setRow_heap _ _ _ _ _ _ hqb
              exact fun W hk => three_heads (keep_block hq hk))
            clear hb6 hb7 hb8 hqb
            (try clear r0 r1 r2)
            obtain ⟨r0, r1, r2⟩ := three_heads (keep_block HBOX.out HK8.out)
            go_wp2_with (refine wpList_store_row rfl _ _ _ rfl Q #[.int .i64 0, .int .u32 0, .slice none 0 0] rfl rfl 25 _ HQB.out (Tryz.sizePn _ _ _) rfl (one3 _ _ _ _ _) ?_)
            refine (HWY.out _ HK8.out).mono ?_
            rintro e w9 ⟨E', rfl, hwhy', hb9⟩
            have hEE : E' = E := hwhy'.unique HWH.out
            subst hEE
            have HK9 := Lib.hid (HK8.out.trans (hb9.mono HK8.out.size))
            obtain ⟨q0, q1, q2⟩ := HQC.out _ hb9
            have HSM := Lib.hid (refSame_any 0 0 (.slice none 0 0) [] 0 0 (.slice none 0 0) [] w9 (PlsIn.nil _ _) (PlsIn.nil _ _))
            rw [show sameB 0 0 [] 0 0 [] = true from decide_eq_true ⟨rfl, rfl, rfl⟩] at HSM
            unfold planA at HSM
            clear hb9 hwhy' hw8 hw7 r0 r1 r2
            go_wp2_with fail
            refine HSM.out.mono ?_
            rintro e w10 ⟨rfl, hb10⟩
            have HK10 := Lib.hid (HK9.out.trans (hb10.mono HK9.out.size))
            clear hb10 q0 q1 q2
            go_wp2_with fail
            refine (HAW.out _).mono ?_
            rintro e w11 ⟨rfl, hb11⟩
            have HK11 := Lib.hid (HK10.out.trans (hb11.mono HK10.out.size))
            clear hb11
            go_wp2_with fail
            go_ret
            exact ⟨rfl, HB1.out.trans (HK11.out.mono HB1.out.size)⟩
        | some c =>
          simp only [Option.getD, Option.isSome] at HFC HRC
          have hcd : decide (0 ≤ (c : Int)) = true := decide_eq_true (by omega)
          have hcc : ((c : Int) != (c : Int)) = false := by simp
          go_enter Tryz.func3, Tryz.ntmps3
          go_wp2_with fail
          refine (HLY.out _ HK1.out).mono ?_
          rintro e w2 ⟨rfl, hb2⟩
          have HK2 := Lib.hid (HK1.out.trans (hb2.mono HK1.out.size))
          clear hb2
          (try clear r0 r1 r2)
          obtain ⟨r0, r1, r2⟩ := three_heads (keep_block HBOX.out HK2.out)
          go_wp2_with fail
          refine (HFC.out _ HK2.out).mono ?_
          rintro e w3 ⟨rfl, hb3⟩
          have HK3 := Lib.hid (HK2.out.trans (hb3.mono HK2.out.size))
          clear hb3
          (try clear r0 r1 r2)
          obtain ⟨r0, r1, r2⟩ := three_heads (keep_block HBOX.out HK3.out)
          go_wp2_with fail
          refine (HRT.out _ HK3.out).mono ?_
          rintro e w4 ⟨rfl, hb4⟩
          have HK4 := Lib.hid (HK3.out.trans (hb4.mono HK3.out.size))
          clear hb4
          (try clear r0 r1 r2)
          obtain ⟨r0, r1, r2⟩ := three_heads (keep_block HBOX.out HK4.out)
          go_wp2_with fail
          refine (HRC.out _ HK4.out).mono ?_
          rintro e w5 ⟨rfl, hb5⟩
          have HK5 := Lib.hid (HK4.out.trans (hb5.mono HK4.out.size))
          clear hb5
          (try clear r0 r1 r2)
          obtain ⟨r0, r1, r2⟩ := three_heads (keep_block HBOX.out HK5.out)
          go_wp2_with fail
          refine (HFT.out _ HK5.out).mono ?_
          rintro e w6 ⟨E, hwhy, hb6, hcase⟩
          have HK6 := Lib.hid (HK5.out.trans (hb6.mono HK5.out.size))
          have HWH := Lib.hid hwhy
          (try clear r0 r1 r2)
          obtain ⟨r0, r1, r2⟩ := three_heads (keep_block HBOX.out HK6.out)
          rcases hcase with ⟨hE0, v3, vo, rfl, hpl, hov⟩ | ⟨hE0, rfl⟩
          · subst hE0
            have HGO := Lib.hid HWH.out.zero
            have HRF := Lib.hid (fun W hk => refFit_any f m (.slice A nl cA) l (.slice B q d) qs W (HH.out W hk) HLO.out (HS.out W hk) HGO.out HLN.out)
            obtain ⟨st, hst⟩ : ∃ st, fitT f m l (sortT qs) = st := ⟨_, rfl⟩
            unfold RetFitR at HRF
            rw [hst] at hpl hov HRF
            obtain ⟨Lq, O⟩ := st
            simp only at hpl hov HRF
            obtain ⟨A3, d3, hv3, _, _⟩ := hpl.form
            obtain ⟨n3, hn3⟩ : ∃ n3, Lq.length = n3 := ⟨_, rfl⟩
            rw [hn3] at hv3
            subst hv3
            obtain ⟨w7, Q, hw7, hQ, hQl, hb7, hqb⟩ := box_any w6 #[.int .i64 0, .int .u32 0, .slice none 0 0] 25
            have HQB := Lib.hid hqb
            obtain ⟨w8, hw8⟩ : ∃ w8, w7.setRow Q #[.int .i64 f, .int .u32 m, .slice A3 n3 d3] = w8 := ⟨_, rfl⟩
            have hb8 : Below w6.heap.size w6 w8 := by rw [← hw8]; exact below_row hb7 (by omega) _
            have HK8 := Lib.hid (HK6.out.trans (hb8.mono HK6.out.size))
            have HQC : Hid (∀ W, Below w8.heap.size w8 W → W.cell? ⟨Q, 0, none⟩ = some (.int .i64 f) ∧ W.cell? ⟨Q, 1, none⟩ = some (.int .u32 m) ∧ W.cell? ⟨Q, 2, none⟩ = some (.slice A3 n3 d3)) := Lib.hid (by
              have hq : w8.heap[Q]? = some (.cells #[.int .i64 f, .int .u32 m, .slice A3 n3 d3] 25 (0, 0)) := by rw [← hw8]; exact setRow_heap _ _ _ _ _ _ hqb
              exact fun W hk => three_heads (keep_block hq hk))
            have HPQ := Lib.hid (hpl.any.keep hb8)
            have HOQ := Lib.hid (hov.keep hb8)
            clear hpl hov hb6 hb7 hb8 hqb hst hwhy hn3
            (try clear r0 r1 r2)
            obtain ⟨r0, r1, r2⟩ := three_heads (keep_block HBOX.out HK8.out)
            go_wp2_with (refine wpList_store_row rfl _ _ _ rfl Q #[.int .i64 f, .int .u32 m, .slice A3 n3 d3] rfl rfl 25 _ HQB.out (Tryz.sizePn _ _ _) rfl (one3 _ _ _ _ _) ?_)
            refine (HWY.out _ HK8.out).mono ?_
            rintro e w9 ⟨E', rfl, hwhy', hb9⟩
            have hEE : E' = 0 := hwhy'.unique HWH.out
            subst hEE
            have HK9 := Lib.hid (HK8.out.trans (hb9.mono HK8.out.size))
            have HKc := Lib.hid hb9
            clear hb9 hwhy' hw8 hw7 hQ
            (try clear r0 r1 r2)
            obtain ⟨r0, r1, r2⟩ := three_heads (keep_block HBOX.out HK9.out)
            go_wp2_with fail
            refine (HRF.out _ HK9.out).mono ?_
            rintro e w10 ⟨v5, vo5, rfl, hp5, ho5, hb10⟩
            have HK10 := Lib.hid (HK9.out.trans (hb10.mono HK9.out.size))
            have HKc2 := Lib.hid (HKc.out.trans (hb10.mono HKc.out.size))
            obtain ⟨A5, d5, hv5, _, _⟩ := hp5.form
            obtain ⟨n5, hn5⟩ : ∃ n5, Lq.length = n5 := ⟨_, rfl⟩
            rw [hn5] at hv5
            subst hv5
            obtain ⟨w11, Z, hw11, hZ, hZl, hb11, hzb⟩ := box_any w10 #[.int .i64 0, .int .u32 0, .slice none 0 0] 25
            have HZB := Lib.hid hzb
            obtain ⟨w12, hw12⟩ : ∃ w12, w11.setRow Z #[.int .i64 f, .int .u32 m, .slice A5 n5 d5] = w12 := ⟨_, rfl⟩
            have hb12 : Below w10.heap.size w10 w12 := by rw [← hw12]; exact below_row hb11 (by omega) _
            have HK12 := Lib.hid (HK10.out.trans (hb12.mono HK10.out.size))
            have HKc3 := Lib.hid (HKc2.out.trans (hb12.mono HKc2.out.size))
            have hz : w12.heap[Z]? = some (.cells #[.int .i64 f, .int .u32 m, .slice A5 n5 d5] 25 (0, 0)) := by rw [← hw12]; exact setRow_heap _ _ _ _ _ _ hzb
            have HSM := Lib.hid (refSame_any f m (.slice A3 n3 d3) Lq f m (.slice A5 n5 d5) Lq w12 (HPQ.out.keep HKc3.out) (hp5.keep hb12))
            rw [show sameB f m Lq f m Lq = true from decide_eq_true ⟨rfl, rfl, rfl⟩] at HSM
            have HSO := Lib.hid (fun W (hk : Below w12.heap.size w12 W) => same_any vo vo5 O W (HOQ.out.keep (HKc3.out.trans (hk.mono HKc3.out.size))) ((ho5.keep hb12).keep hk))
            unfold planA at HSM
            obtain ⟨q0, q1, q2⟩ := HQC.out _ HKc3.out
            obtain ⟨z0, z1, z2⟩ := three_heads hz
            clear hp5 ho5 hb10 hb11 hb12 hzb hz hn5 r0 r1 r2
            go_wp2_with (refine wpList_store_row rfl _ _ _ rfl Z #[.int .i64 f, .int .u32 m, .slice A5 n5 d5] rfl rfl 25 _ HZB.out (Tryz.sizePn _ _ _) rfl (one3 _ _ _ _ _) ?_)
            refine HSM.out.mono ?_
            rintro e w13 ⟨rfl, hb13⟩
            have HK13 := Lib.hid (HK12.out.trans (hb13.mono HK12.out.size))
            have HSO2 := Lib.hid (HSO.out _ hb13)
            clear hb13 q0 q1 q2 z0 z1 z2 hw11 hw12
            go_wp2_with fail
            refine HSO2.out.mono ?_
            rintro e w14 ⟨rfl, hb14⟩
            have HK14 := Lib.hid (HK13.out.trans (hb14.mono HK13.out.size))
            clear hb14
            go_wp2_with fail
            refine (HAW.out _).mono ?_
            rintro e w15 ⟨rfl, hb15⟩
            have HK15 := Lib.hid (HK14.out.trans (hb15.mono HK14.out.size))
            clear hb15
            go_wp2_with fail
            go_ret
            exact ⟨rfl, HB1.out.trans (HK15.out.mono HB1.out.size)⟩
          · have hb0 : (E != 0) = true := by simpa using hE0
            have hee : (E == E) = true := by simp
            clear hwhy hE0
            obtain ⟨w7, Q, hw7, hQ, hQl, hb7, hqb⟩ := box_any w6 #[.int .i64 0, .int .u32 0, .slice none 0 0] 25
            have HQB := Lib.hid hqb
            obtain ⟨w8, hw8⟩ : ∃ w8, w7.setRow Q #[.int .i64 0, .int .u32 0, .slice none 0 0] = w8 := ⟨_, rfl⟩
            have hb8 : Below w6.heap.size w6 w8 := by rw [← hw8]; exact below_row hb7 (by omega) _
            have HK8 := Lib.hid (HK6.out.trans (hb8.mono HK6.out.size))
            have HQC : Hid (∀ W, Below w8.heap.size w8 W → W.cell? ⟨Q, 0, none⟩ = some (.int .i64 0) ∧ W.cell? ⟨Q, 1, none⟩ = some (.int .u32 0) ∧ W.cell? ⟨Q, 2, none⟩ = some (.slice none 0 0)) := Lib.hid (by
              have hq : w8.heap[Q]? = some (.cells #[.int .i64 0, .int .u32 0, .slice none 0 0] 25 (0, 0)) := by rw [← hw8]; exact setRow_heap _ _ _ _ _ _ hqb
              exact fun W hk => three_heads (keep_block hq hk))
            clear hb6 hb7 hb8 hqb
            (try clear r0 r1 r2)
            obtain ⟨r0, r1, r2⟩ := three_heads (keep_block HBOX.out HK8.out)
            go_wp2_with (refine wpList_store_row rfl _ _ _ rfl Q #[.int .i64 0, .int .u32 0, .slice none 0 0] rfl rfl 25 _ HQB.out (Tryz.sizePn _ _ _) rfl (one3 _ _ _ _ _) ?_)
            refine (HWY.out _ HK8.out).mono ?_
            rintro e w9 ⟨E', rfl, hwhy', hb9⟩
            have hEE : E' = E := hwhy'.unique HWH.out
            subst hEE
            have HK9 := Lib.hid (HK8.out.trans (hb9.mono HK8.out.size))
            obtain ⟨q0, q1, q2⟩ := HQC.out _ hb9
            have HSM := Lib.hid (refSame_any 0 0 (.slice none 0 0) [] 0 0 (.slice none 0 0) [] w9 (PlsIn.nil _ _) (PlsIn.nil _ _))
            rw [show sameB 0 0 [] 0 0 [] = true from decide_eq_true ⟨rfl, rfl, rfl⟩] at HSM
            unfold planA at HSM
            clear hb9 hwhy' hw8 hw7 r0 r1 r2
            go_wp2_with fail
            refine HSM.out.mono ?_
            rintro e w10 ⟨rfl, hb10⟩
            have HK10 := Lib.hid (HK9.out.trans (hb10.mono HK9.out.size))
            clear hb10 q0 q1 q2
            go_wp2_with fail
            refine (HAW.out _).mono ?_
            rintro e w11 ⟨rfl, hb11⟩
            have HK11 := Lib.hid (HK10.out.trans (hb11.mono HK10.out.size))
            clear hb11
            go_wp2_with fail
            go_ret
            exact ⟨rfl, HB1.out.trans (HK11.out.mono HB1.out.size)⟩
      · have HFC := Lib.hid (HFN.out (.inl (by omega)))
        have h1d : decide (1 ≤ s) = false := decide_eq_false h1
        clear HRI HFY HFN HRY hr
        go_enter Tryz.func3, Tryz.ntmps3
        go_wp2_with fail
        refine (HLY.out _ HK1.out).mono ?_
        rintro e w2 ⟨rfl, hb2⟩
        have HK2 := Lib.hid (HK1.out.trans (hb2.mono HK1.out.size))
        clear hb2
        (try clear r0 r1 r2)
        obtain ⟨r0, r1, r2⟩ := three_heads (keep_block HBOX.out HK2.out)
        go_wp2_with fail
        refine (HFC.out _ HK2.out).mono ?_
        rintro e w3 ⟨rfl, hb3⟩
        have HK3 := Lib.hid (HK2.out.trans (hb3.mono HK2.out.size))
        clear hb3
        (try clear r0 r1 r2)
        obtain ⟨r0, r1, r2⟩ := three_heads (keep_block HBOX.out HK3.out)
        go_wp2_with fail
        refine (HRT.out _ HK3.out).mono ?_
        rintro e w4 ⟨rfl, hb4⟩
        have HK4 := Lib.hid (HK3.out.trans (hb4.mono HK3.out.size))
        clear hb4
        (try clear r0 r1 r2)
        obtain ⟨r0, r1, r2⟩ := three_heads (keep_block HBOX.out HK4.out)
        go_wp2_with fail
        refine (HFT.out _ HK4.out).mono ?_
        rintro e w5 ⟨E, hwhy, hb5, hcase⟩
        have HK5 := Lib.hid (HK4.out.trans (hb5.mono HK4.out.size))
        have HWH := Lib.hid hwhy
        (try clear r0 r1 r2)
        obtain ⟨r0, r1, r2⟩ := three_heads (keep_block HBOX.out HK5.out)
        rcases hcase with ⟨hE0, v3, vo, rfl, hpl, hov⟩ | ⟨hE0, rfl⟩
        · subst hE0
          have HGO := Lib.hid HWH.out.zero
          have HRF := Lib.hid (fun W hk => refFit_any f m (.slice A nl cA) l (.slice B q d) qs W (HH.out W hk) HLO.out (HS.out W hk) HGO.out HLN.out)
          obtain ⟨st, hst⟩ : ∃ st, fitT f m l (sortT qs) = st := ⟨_, rfl⟩
          unfold RetFitR at HRF
          rw [hst] at hpl hov HRF
          obtain ⟨Lq, O⟩ := st
          simp only at hpl hov HRF
          obtain ⟨A3, d3, hv3, _, _⟩ := hpl.form
          obtain ⟨n3, hn3⟩ : ∃ n3, Lq.length = n3 := ⟨_, rfl⟩
          rw [hn3] at hv3
          subst hv3
          obtain ⟨w6, Q, hw6, hQ, hQl, hb6, hqb⟩ := box_any w5 #[.int .i64 0, .int .u32 0, .slice none 0 0] 25
          have HQB := Lib.hid hqb
          obtain ⟨w7, hw7⟩ : ∃ w7, w6.setRow Q #[.int .i64 f, .int .u32 m, .slice A3 n3 d3] = w7 := ⟨_, rfl⟩
          have hb7 : Below w5.heap.size w5 w7 := by rw [← hw7]; exact below_row hb6 (by omega) _
          have HK7 := Lib.hid (HK5.out.trans (hb7.mono HK5.out.size))
          have HQC : Hid (∀ W, Below w7.heap.size w7 W → W.cell? ⟨Q, 0, none⟩ = some (.int .i64 f) ∧ W.cell? ⟨Q, 1, none⟩ = some (.int .u32 m) ∧ W.cell? ⟨Q, 2, none⟩ = some (.slice A3 n3 d3)) := Lib.hid (by
            have hq : w7.heap[Q]? = some (.cells #[.int .i64 f, .int .u32 m, .slice A3 n3 d3] 25 (0, 0)) := by rw [← hw7]; exact setRow_heap _ _ _ _ _ _ hqb
            exact fun W hk => three_heads (keep_block hq hk))
          have HPQ := Lib.hid (hpl.any.keep hb7)
          have HOQ := Lib.hid (hov.keep hb7)
          clear hpl hov hb5 hb6 hb7 hqb hst hwhy hn3
          (try clear r0 r1 r2)
          obtain ⟨r0, r1, r2⟩ := three_heads (keep_block HBOX.out HK7.out)
          go_wp2_with (refine wpList_store_row rfl _ _ _ rfl Q #[.int .i64 f, .int .u32 m, .slice A3 n3 d3] rfl rfl 25 _ HQB.out (Tryz.sizePn _ _ _) rfl (one3 _ _ _ _ _) ?_)
          refine (HWY.out _ HK7.out).mono ?_
          rintro e w8 ⟨E', rfl, hwhy', hb8⟩
          have hEE : E' = 0 := hwhy'.unique HWH.out
          subst hEE
          have HK8 := Lib.hid (HK7.out.trans (hb8.mono HK7.out.size))
          have HKc := Lib.hid hb8
          clear hb8 hwhy' hw7 hw6 hQ
          (try clear r0 r1 r2)
          obtain ⟨r0, r1, r2⟩ := three_heads (keep_block HBOX.out HK8.out)
          go_wp2_with fail
          refine (HRF.out _ HK8.out).mono ?_
          rintro e w9 ⟨v5, vo5, rfl, hp5, ho5, hb9⟩
          have HK9 := Lib.hid (HK8.out.trans (hb9.mono HK8.out.size))
          have HKc2 := Lib.hid (HKc.out.trans (hb9.mono HKc.out.size))
          obtain ⟨A5, d5, hv5, _, _⟩ := hp5.form
          obtain ⟨n5, hn5⟩ : ∃ n5, Lq.length = n5 := ⟨_, rfl⟩
          rw [hn5] at hv5
          subst hv5
          obtain ⟨w10, Z, hw10, hZ, hZl, hb10, hzb⟩ := box_any w9 #[.int .i64 0, .int .u32 0, .slice none 0 0] 25
          have HZB := Lib.hid hzb
          obtain ⟨w11, hw11⟩ : ∃ w11, w10.setRow Z #[.int .i64 f, .int .u32 m, .slice A5 n5 d5] = w11 := ⟨_, rfl⟩
          have hb11 : Below w9.heap.size w9 w11 := by rw [← hw11]; exact below_row hb10 (by omega) _
          have HK11 := Lib.hid (HK9.out.trans (hb11.mono HK9.out.size))
          have HKc3 := Lib.hid (HKc2.out.trans (hb11.mono HKc2.out.size))
          have hz : w11.heap[Z]? = some (.cells #[.int .i64 f, .int .u32 m, .slice A5 n5 d5] 25 (0, 0)) := by rw [← hw11]; exact setRow_heap _ _ _ _ _ _ hzb
          have HSM := Lib.hid (refSame_any f m (.slice A3 n3 d3) Lq f m (.slice A5 n5 d5) Lq w11 (HPQ.out.keep HKc3.out) (hp5.keep hb11))
          rw [show sameB f m Lq f m Lq = true from decide_eq_true ⟨rfl, rfl, rfl⟩] at HSM
          have HSO := Lib.hid (fun W (hk : Below w11.heap.size w11 W) => same_any vo vo5 O W (HOQ.out.keep (HKc3.out.trans (hk.mono HKc3.out.size))) ((ho5.keep hb11).keep hk))
          unfold planA at HSM
          obtain ⟨q0, q1, q2⟩ := HQC.out _ HKc3.out
          obtain ⟨z0, z1, z2⟩ := three_heads hz
          clear hp5 ho5 hb9 hb10 hb11 hzb hz hn5 r0 r1 r2
          go_wp2_with (refine wpList_store_row rfl _ _ _ rfl Z #[.int .i64 f, .int .u32 m, .slice A5 n5 d5] rfl rfl 25 _ HZB.out (Tryz.sizePn _ _ _) rfl (one3 _ _ _ _ _) ?_)
          refine HSM.out.mono ?_
          rintro e w12 ⟨rfl, hb12⟩
          have HK12 := Lib.hid (HK11.out.trans (hb12.mono HK11.out.size))
          have HSO2 := Lib.hid (HSO.out _ hb12)
          clear hb12 q0 q1 q2 z0 z1 z2 hw10 hw11
          go_wp2_with fail
          refine HSO2.out.mono ?_
          rintro e w13 ⟨rfl, hb13⟩
          have HK13 := Lib.hid (HK12.out.trans (hb13.mono HK12.out.size))
          clear hb13
          go_wp2_with fail
          refine (HAW.out _).mono ?_
          rintro e w14 ⟨rfl, hb14⟩
          have HK14 := Lib.hid (HK13.out.trans (hb14.mono HK13.out.size))
          clear hb14
          go_wp2_with fail
          go_ret
          exact ⟨rfl, HB1.out.trans (HK14.out.mono HB1.out.size)⟩
        · have hb0 : (E != 0) = true := by simpa using hE0
          have hee : (E == E) = true := by simp
          clear hwhy hE0
          obtain ⟨w6, Q, hw6, hQ, hQl, hb6, hqb⟩ := box_any w5 #[.int .i64 0, .int .u32 0, .slice none 0 0] 25
          have HQB := Lib.hid hqb
          obtain ⟨w7, hw7⟩ : ∃ w7, w6.setRow Q #[.int .i64 0, .int .u32 0, .slice none 0 0] = w7 := ⟨_, rfl⟩
          have hb7 : Below w5.heap.size w5 w7 := by rw [← hw7]; exact below_row hb6 (by omega) _
          have HK7 := Lib.hid (HK5.out.trans (hb7.mono HK5.out.size))
          have HQC : Hid (∀ W, Below w7.heap.size w7 W → W.cell? ⟨Q, 0, none⟩ = some (.int .i64 0) ∧ W.cell? ⟨Q, 1, none⟩ = some (.int .u32 0) ∧ W.cell? ⟨Q, 2, none⟩ = some (.slice none 0 0)) := Lib.hid (by
            have hq : w7.heap[Q]? = some (.cells #[.int .i64 0, .int .u32 0, .slice none 0 0] 25 (0, 0)) := by rw [← hw7]; exact setRow_heap _ _ _ _ _ _ hqb
            exact fun W hk => three_heads (keep_block hq hk))
          clear hb5 hb6 hb7 hqb
          (try clear r0 r1 r2)
          obtain ⟨r0, r1, r2⟩ := three_heads (keep_block HBOX.out HK7.out)
          go_wp2_with (refine wpList_store_row rfl _ _ _ rfl Q #[.int .i64 0, .int .u32 0, .slice none 0 0] rfl rfl 25 _ HQB.out (Tryz.sizePn _ _ _) rfl (one3 _ _ _ _ _) ?_)
          refine (HWY.out _ HK7.out).mono ?_
          rintro e w8 ⟨E', rfl, hwhy', hb8⟩
          have hEE : E' = E := hwhy'.unique HWH.out
          subst hEE
          have HK8 := Lib.hid (HK7.out.trans (hb8.mono HK7.out.size))
          obtain ⟨q0, q1, q2⟩ := HQC.out _ hb8
          have HSM := Lib.hid (refSame_any 0 0 (.slice none 0 0) [] 0 0 (.slice none 0 0) [] w8 (PlsIn.nil _ _) (PlsIn.nil _ _))
          rw [show sameB 0 0 [] 0 0 [] = true from decide_eq_true ⟨rfl, rfl, rfl⟩] at HSM
          unfold planA at HSM
          clear hb8 hwhy' hw7 hw6 r0 r1 r2
          go_wp2_with fail
          refine HSM.out.mono ?_
          rintro e w9 ⟨rfl, hb9⟩
          have HK9 := Lib.hid (HK8.out.trans (hb9.mono HK8.out.size))
          clear hb9 q0 q1 q2
          go_wp2_with fail
          refine (HAW.out _).mono ?_
          rintro e w10 ⟨rfl, hb10⟩
          have HK10 := Lib.hid (HK9.out.trans (hb10.mono HK9.out.size))
          clear hb10
          go_wp2_with fail
          go_ret
          exact ⟨rfl, HB1.out.trans (HK10.out.mono HB1.out.size)⟩
    · have HRT := Lib.hid (fun W hk => (HRI.out W hk).2 hr)
      have HFC := Lib.hid (HFN.out (.inr hr))
      clear HRI HFY HFN HRY hr
      go_enter Tryz.func3, Tryz.ntmps3
      go_wp2_with fail
      refine (HLY.out _ HK1.out).mono ?_
      rintro e w2 ⟨rfl, hb2⟩
      have HK2 := Lib.hid (HK1.out.trans (hb2.mono HK1.out.size))
      clear hb2
      (try clear r0 r1 r2)
      obtain ⟨r0, r1, r2⟩ := three_heads (keep_block HBOX.out HK2.out)
      go_wp2_with fail
      refine (HFC.out _ HK2.out).mono ?_
      rintro e w3 ⟨rfl, hb3⟩
      have HK3 := Lib.hid (HK2.out.trans (hb3.mono HK2.out.size))
      clear hb3
      (try clear r0 r1 r2)
      obtain ⟨r0, r1, r2⟩ := three_heads (keep_block HBOX.out HK3.out)
      go_wp2_with fail
      refine (HRT.out _ HK3.out).mono ?_
      rintro e w4 ⟨rfl, hb4⟩
      have HK4 := Lib.hid (HK3.out.trans (hb4.mono HK3.out.size))
      clear hb4
      (try clear r0 r1 r2)
      obtain ⟨r0, r1, r2⟩ := three_heads (keep_block HBOX.out HK4.out)
      go_wp2_with fail
      refine (HFT.out _ HK4.out).mono ?_
      rintro e w5 ⟨E, hwhy, hb5, hcase⟩
      have HK5 := Lib.hid (HK4.out.trans (hb5.mono HK4.out.size))
      have HWH := Lib.hid hwhy
      (try clear r0 r1 r2)
      obtain ⟨r0, r1, r2⟩ := three_heads (keep_block HBOX.out HK5.out)
      rcases hcase with ⟨hE0, v3, vo, rfl, hpl, hov⟩ | ⟨hE0, rfl⟩
      · subst hE0
        have HGO := Lib.hid HWH.out.zero
        have HRF := Lib.hid (fun W hk => refFit_any f m (.slice A nl cA) l (.slice B q d) qs W (HH.out W hk) HLO.out (HS.out W hk) HGO.out HLN.out)
        obtain ⟨st, hst⟩ : ∃ st, fitT f m l (sortT qs) = st := ⟨_, rfl⟩
        unfold RetFitR at HRF
        rw [hst] at hpl hov HRF
        obtain ⟨Lq, O⟩ := st
        simp only at hpl hov HRF
        obtain ⟨A3, d3, hv3, _, _⟩ := hpl.form
        obtain ⟨n3, hn3⟩ : ∃ n3, Lq.length = n3 := ⟨_, rfl⟩
        rw [hn3] at hv3
        subst hv3
        obtain ⟨w6, Q, hw6, hQ, hQl, hb6, hqb⟩ := box_any w5 #[.int .i64 0, .int .u32 0, .slice none 0 0] 25
        have HQB := Lib.hid hqb
        obtain ⟨w7, hw7⟩ : ∃ w7, w6.setRow Q #[.int .i64 f, .int .u32 m, .slice A3 n3 d3] = w7 := ⟨_, rfl⟩
        have hb7 : Below w5.heap.size w5 w7 := by rw [← hw7]; exact below_row hb6 (by omega) _
        have HK7 := Lib.hid (HK5.out.trans (hb7.mono HK5.out.size))
        have HQC : Hid (∀ W, Below w7.heap.size w7 W → W.cell? ⟨Q, 0, none⟩ = some (.int .i64 f) ∧ W.cell? ⟨Q, 1, none⟩ = some (.int .u32 m) ∧ W.cell? ⟨Q, 2, none⟩ = some (.slice A3 n3 d3)) := Lib.hid (by
          have hq : w7.heap[Q]? = some (.cells #[.int .i64 f, .int .u32 m, .slice A3 n3 d3] 25 (0, 0)) := by rw [← hw7]; exact setRow_heap _ _ _ _ _ _ hqb
          exact fun W hk => three_heads (keep_block hq hk))
        have HPQ := Lib.hid (hpl.any.keep hb7)
        have HOQ := Lib.hid (hov.keep hb7)
        clear hpl hov hb5 hb6 hb7 hqb hst hwhy hn3
        (try clear r0 r1 r2)
        obtain ⟨r0, r1, r2⟩ := three_heads (keep_block HBOX.out HK7.out)
        go_wp2_with (refine wpList_store_row rfl _ _ _ rfl Q #[.int .i64 f, .int .u32 m, .slice A3 n3 d3] rfl rfl 25 _ HQB.out (Tryz.sizePn _ _ _) rfl (one3 _ _ _ _ _) ?_)
        refine (HWY.out _ HK7.out).mono ?_
        rintro e w8 ⟨E', rfl, hwhy', hb8⟩
        have hEE : E' = 0 := hwhy'.unique HWH.out
        subst hEE
        have HK8 := Lib.hid (HK7.out.trans (hb8.mono HK7.out.size))
        have HKc := Lib.hid hb8
        clear hb8 hwhy' hw7 hw6 hQ
        (try clear r0 r1 r2)
        obtain ⟨r0, r1, r2⟩ := three_heads (keep_block HBOX.out HK8.out)
        go_wp2_with fail
        refine (HRF.out _ HK8.out).mono ?_
        rintro e w9 ⟨v5, vo5, rfl, hp5, ho5, hb9⟩
        have HK9 := Lib.hid (HK8.out.trans (hb9.mono HK8.out.size))
        have HKc2 := Lib.hid (HKc.out.trans (hb9.mono HKc.out.size))
        obtain ⟨A5, d5, hv5, _, _⟩ := hp5.form
        obtain ⟨n5, hn5⟩ : ∃ n5, Lq.length = n5 := ⟨_, rfl⟩
        rw [hn5] at hv5
        subst hv5
        obtain ⟨w10, Z, hw10, hZ, hZl, hb10, hzb⟩ := box_any w9 #[.int .i64 0, .int .u32 0, .slice none 0 0] 25
        have HZB := Lib.hid hzb
        obtain ⟨w11, hw11⟩ : ∃ w11, w10.setRow Z #[.int .i64 f, .int .u32 m, .slice A5 n5 d5] = w11 := ⟨_, rfl⟩
        have hb11 : Below w9.heap.size w9 w11 := by rw [← hw11]; exact below_row hb10 (by omega) _
        have HK11 := Lib.hid (HK9.out.trans (hb11.mono HK9.out.size))
        have HKc3 := Lib.hid (HKc2.out.trans (hb11.mono HKc2.out.size))
        have hz : w11.heap[Z]? = some (.cells #[.int .i64 f, .int .u32 m, .slice A5 n5 d5] 25 (0, 0)) := by rw [← hw11]; exact setRow_heap _ _ _ _ _ _ hzb
        have HSM := Lib.hid (refSame_any f m (.slice A3 n3 d3) Lq f m (.slice A5 n5 d5) Lq w11 (HPQ.out.keep HKc3.out) (hp5.keep hb11))
        rw [show sameB f m Lq f m Lq = true from decide_eq_true ⟨rfl, rfl, rfl⟩] at HSM
        have HSO := Lib.hid (fun W (hk : Below w11.heap.size w11 W) => same_any vo vo5 O W (HOQ.out.keep (HKc3.out.trans (hk.mono HKc3.out.size))) ((ho5.keep hb11).keep hk))
        unfold planA at HSM
        obtain ⟨q0, q1, q2⟩ := HQC.out _ HKc3.out
        obtain ⟨z0, z1, z2⟩ := three_heads hz
        clear hp5 ho5 hb9 hb10 hb11 hzb hz hn5 r0 r1 r2
        go_wp2_with (refine wpList_store_row rfl _ _ _ rfl Z #[.int .i64 f, .int .u32 m, .slice A5 n5 d5] rfl rfl 25 _ HZB.out (Tryz.sizePn _ _ _) rfl (one3 _ _ _ _ _) ?_)
        refine HSM.out.mono ?_
        rintro e w12 ⟨rfl, hb12⟩
        have HK12 := Lib.hid (HK11.out.trans (hb12.mono HK11.out.size))
        have HSO2 := Lib.hid (HSO.out _ hb12)
        clear hb12 q0 q1 q2 z0 z1 z2 hw10 hw11
        go_wp2_with fail
        refine HSO2.out.mono ?_
        rintro e w13 ⟨rfl, hb13⟩
        have HK13 := Lib.hid (HK12.out.trans (hb13.mono HK12.out.size))
        clear hb13
        go_wp2_with fail
        refine (HAW.out _).mono ?_
        rintro e w14 ⟨rfl, hb14⟩
        have HK14 := Lib.hid (HK13.out.trans (hb14.mono HK13.out.size))
        clear hb14
        go_wp2_with fail
        go_ret
        exact ⟨rfl, HB1.out.trans (HK14.out.mono HB1.out.size)⟩
      · have hb0 : (E != 0) = true := by simpa using hE0
        have hee : (E == E) = true := by simp
        clear hwhy hE0
        obtain ⟨w6, Q, hw6, hQ, hQl, hb6, hqb⟩ := box_any w5 #[.int .i64 0, .int .u32 0, .slice none 0 0] 25
        have HQB := Lib.hid hqb
        obtain ⟨w7, hw7⟩ : ∃ w7, w6.setRow Q #[.int .i64 0, .int .u32 0, .slice none 0 0] = w7 := ⟨_, rfl⟩
        have hb7 : Below w5.heap.size w5 w7 := by rw [← hw7]; exact below_row hb6 (by omega) _
        have HK7 := Lib.hid (HK5.out.trans (hb7.mono HK5.out.size))
        have HQC : Hid (∀ W, Below w7.heap.size w7 W → W.cell? ⟨Q, 0, none⟩ = some (.int .i64 0) ∧ W.cell? ⟨Q, 1, none⟩ = some (.int .u32 0) ∧ W.cell? ⟨Q, 2, none⟩ = some (.slice none 0 0)) := Lib.hid (by
          have hq : w7.heap[Q]? = some (.cells #[.int .i64 0, .int .u32 0, .slice none 0 0] 25 (0, 0)) := by rw [← hw7]; exact setRow_heap _ _ _ _ _ _ hqb
          exact fun W hk => three_heads (keep_block hq hk))
        clear hb5 hb6 hb7 hqb
        (try clear r0 r1 r2)
        obtain ⟨r0, r1, r2⟩ := three_heads (keep_block HBOX.out HK7.out)
        go_wp2_with (refine wpList_store_row rfl _ _ _ rfl Q #[.int .i64 0, .int .u32 0, .slice none 0 0] rfl rfl 25 _ HQB.out (Tryz.sizePn _ _ _) rfl (one3 _ _ _ _ _) ?_)
        refine (HWY.out _ HK7.out).mono ?_
        rintro e w8 ⟨E', rfl, hwhy', hb8⟩
        have hEE : E' = E := hwhy'.unique HWH.out
        subst hEE
        have HK8 := Lib.hid (HK7.out.trans (hb8.mono HK7.out.size))
        obtain ⟨q0, q1, q2⟩ := HQC.out _ hb8
        have HSM := Lib.hid (refSame_any 0 0 (.slice none 0 0) [] 0 0 (.slice none 0 0) [] w8 (PlsIn.nil _ _) (PlsIn.nil _ _))
        rw [show sameB 0 0 [] 0 0 [] = true from decide_eq_true ⟨rfl, rfl, rfl⟩] at HSM
        unfold planA at HSM
        clear hb8 hwhy' hw7 hw6 r0 r1 r2
        go_wp2_with fail
        refine HSM.out.mono ?_
        rintro e w9 ⟨rfl, hb9⟩
        have HK9 := Lib.hid (HK8.out.trans (hb9.mono HK8.out.size))
        clear hb9 q0 q1 q2
        go_wp2_with fail
        refine (HAW.out _).mono ?_
        rintro e w10 ⟨rfl, hb10⟩
        have HK10 := Lib.hid (HK9.out.trans (hb10.mono HK9.out.size))
        clear hb10
        go_wp2_with fail
        go_ret
        exact ⟨rfl, HB1.out.trans (HK10.out.mono HB1.out.size)⟩
  · have HLN := Lib.hid (fun W hk => (HLI.out W hk).2 hlit)
    clear h hb1 hbox harg hi hs hnil hnl hlq HLI hlit ho hi'
    go_enter Tryz.func3, Tryz.ntmps3
    go_wp2_with fail
    refine (HLN.out _ HK1.out).mono ?_
    rintro e w2 ⟨rfl, hb2⟩
    have HK2 := Lib.hid (HK1.out.trans (hb2.mono HK1.out.size))
    clear hb2
    go_wp2_with fail
    refine (HAW.out _).mono ?_
    rintro e w3 ⟨rfl, hb3⟩
    have HK3 := Lib.hid (HK2.out.trans (hb3.mono HK2.out.size))
    clear hb3
    go_wp2_with fail
    go_ret
    exact ⟨rfl, HB1.out.trans (HK3.out.mono HB1.out.size)⟩
end Go.Proofs.YtiadnpipbocecaaGreat
