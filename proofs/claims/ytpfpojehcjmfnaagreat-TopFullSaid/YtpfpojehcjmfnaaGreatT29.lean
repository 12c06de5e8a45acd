/-
  The law of full cores: TopFull.
  Conditions: the slices read as wants; the numbers are of their kinds.
-/
import Derived.Test.YtpfpojehcjmfnaaGreatT23
import Derived.Test.YtpfpojehcjmfnaaGreatT26
import Derived.Test.YtpfpojehcjmfnaaGreatT28
import Derived.Test.YtpfpojehcjmfnaaGreatT13

/-
  The law of full cores: TopFull.
  Conditions: the slices read as wants; the numbers are of their kinds.
-/
set_option linter.unusedVariables false
set_option linter.unusedSimpArgs false
namespace Go.Proofs.YtpfpojehcjmfnaaGreat
open Go.RowKit

set_option maxRecDepth 100000 in
set_option maxHeartbeats 16000000 in
theorem topfull_law (f : Int) (m : Nat) (vw : Value) (ps : List Sp) (w : World) (hm : m < 4294967296) (hv : ArgAt w vw ps) (hi : IntsS ps) :
    Calls Tryz.prog 6 #[.int .i64 f, .int .u32 m, vw] w (RetB (.bool true) w) := by
  have mixed : Tryz.prog.follows .mixedOrders = true := by kernel_rfl
  have HAW := Lib.hid (fun W => begins20_any W)
  have harg := hv
  obtain ⟨B, d, rfl, hc1, hc2, hnil, _⟩ := hv
  have hs := harg.cut 60 (by decide)
  have hi' := hi.take 60
  have hlq : (ps.take 60).length = min ps.length 60 := by rw [List.length_take, Nat.min_comm]
  have hmn : min (ps.length : Int) 60 = ((min ps.length 60 : Nat) : Int) := by omega
  have hmle : min ps.length 60 ≤ ps.length := Nat.min_le_left _ _
  have hm60 : min ps.length 60 ≤ 60 := Nat.min_le_right _ _
  generalize ps.take 60 = qs at *
  generalize ps.length = n at *
  generalize min n 60 = q at *
  have hmc : (q : Int) ≤ (d : Int) := by omega
  have hm0 : (0 : Int) ≤ (q : Int) := by omega
  have HLQ := Lib.hid hlq
  have hl300 : qs.length ≤ 300 := by omega
  have HNIL := Lib.hid hnil
  have HI := Lib.hid hi'
  have HS : Hid (∀ W, Below w.heap.size w W → SpansAt W (.slice B q d) qs) := Lib.hid (fun W hk => hs.keep hk)
  have HFU := Lib.hid (full_any f m (.slice B q d) qs w (HS.out w (Below.refl _ w)) hi' hm hl300)
  have HMM := Lib.hid hm
  clear harg hi hs hi' hlq hl300 hnil hm
  go_enter Tryz.func6, Tryz.ntmps6
  go_wp2_with fail
  refine HFU.out.mono ?_
  rintro e w2 ⟨E, hwhy, hb2, hcase⟩
  have HK2 := Lib.hid hb2
  have HWH := Lib.hid hwhy
  rcases hcase with ⟨hE0, v3, rfl, hpl⟩ | ⟨hE0, rfl⟩
  · subst hE0
    have hok := HWH.out.zero
    have his := hok.is
    obtain ⟨Lq, hLQ⟩ : ∃ Lq, fullT f m qs = Lq := ⟨_, rfl⟩
    rw [hLQ] at hpl his
    have hlen := his.len
    have hLq : LightL Lq := ⟨by have := HLQ.out; omega, his.ok⟩
    have hR := his.right
    obtain ⟨A3, d3, hv3, _, _⟩ := hpl.form
    obtain ⟨n3, hn3⟩ : ∃ n3, Lq.length = n3 := ⟨_, rfl⟩
    rw [hn3] at hv3
    subst hv3
    obtain ⟨w3, Q, hw3, hQ, hQl, hbw3, hQb⟩ := box_any w2 #[.int .i64 0, .int .u32 0, .slice none 0 0] 26
    have HQB := Lib.hid hQb
    obtain ⟨w4, hw4⟩ : ∃ w4, w3.setRow Q #[.int .i64 f, .int .u32 m, .slice A3 n3 d3] = w4 := ⟨_, rfl⟩
    have hbw4 : Below w2.heap.size w2 w4 := by rw [← hw4]; exact below_row hbw3 (by omega) _
    have HKw4 := Lib.hid (HK2.out.trans (hbw4.mono HK2.out.size))
    have HQC : Hid (∀ W, Below w4.heap.size w4 W → W.cell? ⟨Q, 0, none⟩ = some (.int .i64 f) ∧ W.cell? ⟨Q, 1, none⟩ = some (.int .u32 m) ∧ W.cell? ⟨Q, 2, none⟩ = some (.slice A3 n3 d3)) := Lib.hid (by
      have hq : w4.heap[Q]? = some (.cells #[.int .i64 f, .int .u32 m, .slice A3 n3 d3] 26 (0, 0)) := by rw [← hw4]; exact setRow_heap _ _ _ _ _ _ hQb
      exact fun W hk => three_heads (keep_block hq hk))
    have HPQ : Hid (∀ W, Below w4.heap.size w4 W → PlsAt W (.slice A3 n3 d3) Lq) := Lib.hid (fun W hk => (hpl.keep hbw4).keep hk)
    have HK40 := Lib.hid (Below.refl w4.heap.size w4)
    have HFR := Lib.hid (free_any f m (.slice A3 n3 d3) Lq w4 (HPQ.out w4 HK40.out) hLq (shares_of hR.place hR.f64) HMM.out (by have := hR.f2; omega) hR.f64)
    have HRT := Lib.hid hR
    have HLG := Lib.hid hLq
    have HGT : Hid (∀ y ∈ qs, ∃ x ∈ Lq, x.u = y.1 ∧ x.s = y.2) := Lib.hid (fun y hy => by
      obtain ⟨x, h1, h2, h3⟩ := his.got y hy
      exact ⟨x, List.mem_of_find?_eq_some h1, h2, h3⟩)
    obtain ⟨g0, hg0⟩ : ∃ g0, freeT f m Lq 16 = g0 := ⟨_, rfl⟩
    have HG0 := Lib.hid hg0
    rw [hg0] at HFR
    unfold planA at HFR
    obtain ⟨q0, q1, q2⟩ := HQC.out _ HK40.out
    clear hb2 hbw3 hbw4 hQb hpl hn3 hwhy hok his hlen hLq hR hg0 hLQ
    unfold planA
    go_wp2_with (refine wpList_store_row rfl _ _ _ rfl Q #[.int .i64 f, .int .u32 m, .slice A3 n3 d3] rfl rfl 26 _ HQB.out (Tryz.sizePn _ _ _) rfl (one3 _ _ _ _ _) ?_)
    refine HFR.out.mono ?_
    rintro e w5 ⟨rfl, hb5⟩
    have HK5 := Lib.hid (HKw4.out.trans (hb5.mono HKw4.out.size))
    have HQ5 := Lib.hid hb5
    clear hb5 q0 q1 q2 hw3 hw4 hQ
    by_cases hz : g0 = 0
    · subst hz
      obtain ⟨n, rfl⟩ : ∃ n : Nat, f = n := ⟨f.toNat, by have := HRT.out.f2; omega⟩
      have HN2 := Lib.hid HRT.out.f2
      have hn64 : (n : Int) ≤ 64 := HRT.out.f64
      have hn64' : n ≤ 64 := by omega
      have HOF := Lib.hid (of_right n m (.slice A3 n3 d3) Lq w5 (HPQ.out w5 HQ5.out) HLG.out HRT.out)
      unfold planA RetOf at HOF
      obtain ⟨q0, q1, q2⟩ := HQC.out _ HQ5.out
      go_wp2_with fail
      refine HOF.out.mono ?_
      rintro e w6 ⟨v6, rfl, ht6, hb6⟩
      have HK6 := Lib.hid (HK5.out.trans (hb6.mono HK5.out.size))
      obtain ⟨nc, hnc⟩ : ∃ nc, (tabsOf n m Lq).length = nc := ⟨_, rfl⟩
      have hnc16 : nc ≤ 16 := by
        rw [← hnc]
        unfold tabsOf
        rw [List.length_map, ticksI_length]
        exact cntT_le m 16
      have HNC := Lib.hid hnc
      have HT6 := Lib.hid ht6
      obtain ⟨A6, d6, rfl, hd6, _⟩ := ht6.form
      rw [hnc] at HT6 hd6 ⊢
      obtain ⟨mb, hmb⟩ : ∃ mb, w6.heap.size = mb := ⟨_, rfl⟩
      obtain ⟨w7, hw7⟩ : ∃ w7, w6.alloc (.map #[] 0) = w7 := ⟨_, rfl⟩
      have hmk : (Instr.makeMap 60 none).run Tryz.prog w6 = .ok (.map (some mb)) w7 := by rw [← hw7, ← hmb]; rfl
      have hb7 : Below w6.heap.size w6 w7 := by rw [← hw7]; exact (Below.refl _ w6).alloc (Nat.le_refl _) _
      have HST : Hid (OutSt n m Lq mb w6 w7 0 0 (fun _ => 0) (.map [])) := Lib.hid (by
        refine ⟨⟨by rw [← hw7, ← hmb]; exact got_new w6, by rw [← hmb]; exact hb7, fun x => Nat.le_refl _⟩, by omega, fun u _ => rfl⟩)
      have HMB := Lib.hid hmb
      clear hb6 ht6 hnc q0 q1 q2
      go_wp2_with fail
      clear hmk hw7 hb7 hmb
      go_loopg [12, 13, 14, 15, 16, 17] nc (fun gg s _ _ _ _ _ wr => ∃ (k cn : Nat) (f9 : Int → Nat) (D : DataW Unit), k ≤ nc ∧ gg = nc - k ∧ s = .int .i64 k ∧ OutSt n m Lq mb w6 wr k cn f9 D)
      case atStart => exact ⟨0, 0, _, _, Nat.zero_le _, by omega, rfl, HST.out⟩
      case round =>
        obtain ⟨k, cn, f9, D, hkn, hgg, rfl, hst⟩ := hrel
        obtain ⟨wo, rfl⟩ : ∃ wo : World, wo = wr := ⟨_, rfl⟩
        have HG := Lib.hid hgg
        have HO := Lib.hid hst
        have HB6 : Hid (Below w6.heap.size w6 wo) := Lib.hid (by rw [HMB.out]; exact HO.out.map.below)
        have HBW := Lib.hid (HK6.out.trans (HB6.out.mono HK6.out.size))
        clear hgg hst
        by_cases hlt : k < nc
        · have hltz : (k : Int) < (nc : Int) := by omega
          have hk0 : (0 : Int) ≤ (k : Int) := by omega
          obtain ⟨tb, htb⟩ : ∃ x, (tabsOf n m Lq)[k]? = some x := ⟨_, List.getElem?_eq_getElem (by rw [HNC.out]; exact hlt)⟩
          obtain ⟨c, hc, htc⟩ : ∃ c, (ticksI m 16)[k]? = some c ∧ tabOf n Lq c = tb := by
            have h9 := htb
            unfold tabsOf at h9
            rw [List.getElem?_map] at h9
            obtain ⟨c, h1, h2⟩ := Option.map_eq_some_iff.1 h9
            exact ⟨c, h1, h2⟩
          obtain ⟨bt, ot, A1, c1, A2, c2, hA, hbt, _, _, t2, _, tsp⟩ := HT6.out.at_ htb
          subst hA
          have htc' : tb.c = c ∧ tb.ws = wholesT Lq c := by rw [← htc]; exact ⟨rfl, rfl⟩
          have HTS : Hid (∀ W, Below w6.heap.size w6 W → W.cell? ⟨bt, ot + k * 3, none⟩ = some (.int .i64 c) ∧ W.cell? ⟨bt, ot + k * 3 + 2, none⟩ = some (.slice A2 tb.ws.length c2) ∧ SpansAt W (.slice A2 tb.ws.length c2) (wholesT Lq c)) := Lib.hid (fun W hk => by
            obtain ⟨b', o', A1', c1', A2', c2', hA', _, u0, _, u2, _, usp⟩ := HT6.out.at_ htb
            injection hA' with hA'
            injection hA' with e1 e2 _
            subst e1 e2
            rw [u2] at t2
            have e3 := Option.some.inj t2
            rw [htc'.1] at u0
            rw [← e3]
            rw [htc'.2] at usp u2 ⊢
            exact ⟨(hk.cell hbt).trans u0, (hk.cell hbt).trans u2, usp.keep hk⟩)
          obtain ⟨lw, hlw⟩ : ∃ lw, tb.ws.length = lw := ⟨_, rfl⟩
          rw [hlw] at HTS
          have HHC := Lib.hid hc
          have HTB := Lib.hid (And.intro htb htc'.1)
          have hcm := List.mem_of_getElem? hc
          obtain ⟨hne, hloose, hsum⟩ := wholes_of HRT.out HG0.out hcm
          have HLO := Lib.hid hloose
          have hwi : IntsS (wholesT Lq c) := fun s hs => by
            have h9 := wholes_right HRT.out c
            have h8 := h9.unit s hs
            have h7 := h9.share s hs
            exact ⟨⟨by omega, by omega⟩, ⟨by omega, by omega⟩⟩
          have HNW := Lib.hid (new_ok n (.slice A2 lw c2) (wholesT Lq c) wo (HTS.out _ HB6.out).2.2 hwi hne)
          have HCM := Lib.hid hcm
          obtain ⟨s0, s2, _⟩ := HTS.out _ HB6.out
          clear htb hc htc htc' t2 tsp hlw hcm hne hloose hsum hwi
          go_wp2_with fail
          refine HNW.out.mono ?_
          rintro e w8 ⟨rb, rfl, hh8, hb8⟩
          have HI0 := Lib.hid (HO.out.into HRT.out HG0.out HCM.out hh8 hb8)
          clear hh8 hb8 s0 s2
          go_wp2_with fail
          go_loopg [15, 16, 17] n (fun gg s _ _ wr => ∃ (t cn : Nat) (f9 : Int → Nat) (D : DataW Unit) (L : List Lm), t ≤ n ∧ gg = n - t ∧ s = .int .i64 t ∧ InSt n m Lq mb rb w6 wr k c t cn f9 D L)
          case atStart => exact ⟨0, _, _, _, _, Nat.zero_le _, by omega, rfl, HI0.out⟩
          case round =>
            obtain ⟨t, cn, f9, D, L, htn, hgg, rfl, hst⟩ := hrel
            obtain ⟨wi, rfl⟩ : ∃ wi : World, wi = wr := ⟨_, rfl⟩
            have HGG := Lib.hid hgg
            have HIN := Lib.hid hst
            have HBI : Hid (Below w6.heap.size w6 wi) := Lib.hid (by rw [HMB.out]; exact HIN.out.map.below)
            have HCN : Hid (cn ≤ 1100) := Lib.hid (by have := HIN.out.cnt; omega)
            have hcnb := HCN.out
            clear hgg hst
            by_cases hlt2 : t < n
            · have hltz2 : (t : Int) < (n : Int) := by omega
              have ht0 : (0 : Int) ≤ (t : Int) := by omega
              obtain ⟨s0, s2, _⟩ := HTS.out _ HBI.out
              have HAT := Lib.hid (tabAt_any (.slice (some ⟨bt, ot, none⟩) nc d6) (tabsOf n m Lq) c (t : Int) wi (HT6.out.keep HBI.out) (by have := HNC.out; omega) ⟨by omega, by omega⟩)
              have hat : atT (tabsOf n m Lq) c (t : Int) = ownF Lq c t := by
                have h9 := at_self (tabs_nodup n m Lq) HTB.out.1 (t := (t : Int))
                rw [HTB.out.2] at h9
                rw [h9]
                have h8 := HTB.out.1
                unfold tabsOf at h8
                rw [List.getElem?_map] at h8
                obtain ⟨c9, h1, h2⟩ := Option.map_eq_some_iff.1 h8
                rw [HHC.out] at h1
                injection h1 with h1
                subst h1
                rw [← h2]
                exact ownerT_of _ hlt2
              rw [hat] at HAT
              obtain ⟨u, hu⟩ : ∃ u, ownF Lq c t = u := ⟨_, rfl⟩
              rw [hu] at HAT
              have HU := Lib.hid hu
              clear hat hu
              go_wp2_with fail
              refine HAT.out.mono ?_
              rintro e w8 ⟨b, rfl, HBQ, hb8⟩
              have HI8 := Lib.hid (HIN.out.keep hb8)
              have HBD := Lib.hid HBQ.out
              clear hb8 s0 s2 HBQ
              by_cases hu0 : u = 0
              · have hbf : b = false := by rw [HBD.out, hu0]; rfl
                subst hbf
                obtain ⟨ip, x, hnx, hF, hgv⟩ := HI8.out.frame.pick (by rw [HU.out]; exact hu0) (by
                  have h1 := loose_le (F := ownF Lq c) (show t + 1 ≤ n by omega)
                  have h2 := HLO.out
                  omega)
                have hxb := HI8.out.frame.ok.unit x (List.mem_of_getElem? (next_some HI8.out.frame.ok.share hnx).at_)
                have HXB := Lib.hid hxb
                have HP := Lib.hid (Held.pick HI8.out.held HI8.out.frame.ok (by have h1 : looseT (ownF Lq c) t ≤ looseT (ownF Lq c) n := loose_le (by omega); have h2 := HLO.out; have h3 := HI8.out.frame.ok.full; have h4 := sumS_wants HI8.out.frame.wants; omega) (IntsM.nil w8))
                have hpv : pickV (nextT (offB []) L) = .tuple #[.int .i64 x.u, .bool true] := by rw [off_none, hnx]; rfl
                rw [hpv] at HP
                have HFN := Lib.hid hF
                have HGV := Lib.hid hgv
                clear hnx hpv hF hgv hxb
                go_wp2_with fail
                refine HP.out.mono ?_
                rintro e w8p ⟨rfl, hh, hb⟩
                have HMP := Lib.hid (HI8.out.map.keep hb)
                have HHP := Lib.hid hh
                obtain ⟨xu, xs', xg⟩ := x
                have hx1 : 1 ≤ xu ∧ xu ≤ 1040 := HXB.out
                obtain ⟨hx1, hx2⟩ := hx1
                have HGV2 : Hid (∀ u : Int, u ≠ 0 → gaveT (ownF Lq c) (t + 1) (pickT (fun _ => false) L) u = gaveT (ownF Lq c) t L u + if (xu : Int) = u then 1 else 0) := Lib.hid HGV.out
                clear hh hb
                have L8 := HMP.out.got.look (xu : Int) (by omega) (by omega)
                have HKEY := Lib.hid (key_int (xu : Int) (by omega) (by omega))
                obtain ⟨fx, hfx⟩ : ∃ fx, f9 (xu : Int) = fx := ⟨_, rfl⟩
                rw [hfx] at L8
                have HFX := Lib.hid hfx
                have hfl : fx ≤ 1200 := by have h9 := HMP.out.le (xu : Int); have h8 := HCN.out; omega
                have HWF := Lib.hid (wf_small (n := (fx : Int) + 1) (by omega) (by omega))
                clear hfx
                go_wp2_with (at_mapUpdate; refine wpList_mapUpdate_own _ rfl _ _ _ 60 rfl 3 3 keyedInt Tryz.underlying60 _ mb cn D rfl HMP.out.got.1 (by unfold maxLen; omega) _ _ (.int .i64 (xu : Int)) rfl rfl HKEY.out (.lit (.int .i64 ((fx : Int) + 1))) [] (plainElem_int Tryz.underlying3 HWF.out) ?_)
                intro w9 hown9 hg9
                rw [← HFX.out] at hown9
                have HEND := Lib.hid (HI8.out.pick (x := ⟨xu, xs', xg⟩) HFN.out HGV2.out HMP.out HHP.out hown9 hg9)
                clear hown9 hg9 L8
                go_wp2_with fail
                go_roundg (n - (t + 1))
                case measure => have := HGG.out; omega
                case rel => exact ⟨t + 1, _, _, _, _, by omega, rfl, by go_num, HEND.out⟩
              · have hbt' : b = true := by rw [HBD.out]; exact decide_eq_true hu0
                subst hbt'
                obtain ⟨y, hy, hyu, _⟩ := own_someT (l := Lq) (c := c) (t := t) (by rw [HU.out]; exact hu0)
                have hub := unit_pos HRT.out hy
                rw [← hyu, HU.out] at hub
                obtain ⟨hu1, hu2⟩ := hub
                clear hy hyu
                have L8 := HI8.out.map.got.look u (by omega) (by omega)
                have HKEY := Lib.hid (key_int u (by omega) (by omega))
                obtain ⟨fx, hfx⟩ : ∃ fx, f9 u = fx := ⟨_, rfl⟩
                rw [hfx] at L8
                have HFX := Lib.hid hfx
                have hfl : fx ≤ 1200 := by have h9 := HI8.out.map.le u; have h8 := HCN.out; omega
                have HWF := Lib.hid (wf_small (n := (fx : Int) + 1) (by omega) (by omega))
                clear hfx
                go_wp2_with (at_mapUpdate; refine wpList_mapUpdate_own _ rfl _ _ _ 60 rfl 3 3 keyedInt Tryz.underlying60 _ mb cn D rfl HI8.out.map.got.1 (by unfold maxLen; omega) _ _ (.int .i64 u) rfl rfl HKEY.out (.lit (.int .i64 ((fx : Int) + 1))) [] (plainElem_int Tryz.underlying3 HWF.out) ?_)
                intro w9 hown9 hg9
                rw [← HFX.out] at hown9
                have HEND := Lib.hid (HI8.out.own HU.out hu0 hown9 hg9)
                clear hown9 hg9 L8
                go_wp2_with fail
                go_roundg (n - (t + 1))
                case measure => have := HGG.out; omega
                case rel => exact ⟨t + 1, _, _, _, _, by omega, rfl, by go_num, HEND.out⟩
            · have hltz2 : ¬ (t : Int) < (n : Int) := by omega
              have htn' : t = n := by omega
              subst htn'
              have HEND := Lib.hid (HIN.out.out HRT.out HG0.out HHC.out)
              go_wp2_with fail
              go_roundg (nc - (k + 1))
              case measure => have := HG.out; omega
              case rel => exact ⟨k + 1, _, _, _, by omega, rfl, by go_num, HEND.out⟩
        · have hltz : ¬ (k : Int) < (nc : Int) := by omega
          have HALL : Hid (∀ y ∈ qs, (f9 y.1 : Int) = y.2 ∧ 0 ≤ y.1 ∧ y.1 ≤ 5000) := Lib.hid (fun y hy => by
            obtain ⟨x, hx, h1, h2⟩ := HGT.out y hy
            have h3 := unit_pos HRT.out hx
            have h4 := HO.out.got y.1 (by omega)
            rw [List.take_of_length_le (by have h5 := HNC.out; unfold tabsOf at h5; rw [List.length_map] at h5; omega)] at h4
            have h5 := got_every HRT.out hx
            rw [← h1] at h4
            refine ⟨?_, by omega, by omega⟩
            rw [← h1, h4, h5, h2])
          have HMP0 := Lib.hid HO.out.map
          clear hlt
          go_wp2_with fail
          clear hltz
          go_loopg [18] q (fun gg s wr => ∃ (i : Nat), i ≤ q ∧ gg = q - i ∧ s = .int .i64 i ∧ MapSt mb w6 wr cn f9 D)
          case atStart => exact ⟨0, Nat.zero_le _, by omega, rfl, HMP0.out⟩
          case round =>
            obtain ⟨i, hin, hgg, rfl, hst⟩ := hrel
            obtain ⟨wi, rfl⟩ : ∃ wi : World, wi = wr := ⟨_, rfl⟩
            have HGG := Lib.hid hgg
            have HMP := Lib.hid hst
            have HBI : Hid (Below w6.heap.size w6 wi) := Lib.hid (by rw [HMB.out]; exact HMP.out.below)
            have HBW2 := Lib.hid (HK6.out.trans (HBI.out.mono HK6.out.size))
            clear hgg hst
            by_cases hlt2 : i < q
            · have hltz2 : (i : Int) < (q : Int) := by omega
              have hi0 : (0 : Int) ≤ (i : Int) := by omega
              obtain ⟨y, hy⟩ := ex_at (xs := qs) (k := i) (by rw [HLQ.out]; exact hlt2)
              obtain ⟨A', c', hs1, hs2, hs3, hs4, hs5⟩ := HS.out _ HBW2.out
              injection hs1 with t1 t2 t3
              subst t1 t3
              obtain ⟨bl, ol, hA, hbl, hcell⟩ := hs5 (by rw [HLQ.out]; omega)
              subst hA
              obtain ⟨hy1, hy2, hy3⟩ := HALL.out y (List.mem_of_getElem? hy)
              have HYC0 := Lib.hid (fun W (hk : Below wi.heap.size wi W) => (hcell i y hy).keep hk hbl)
              have HLK := Lib.hid (fun W (hk : Below wi.heap.size wi W) => (HMP.out.more hk).got.look y.1 hy2 hy3)
              rw [hy1] at HLK
              obtain ⟨y1, g9⟩ := y
              simp only at HYC0 HLK
              have HSA : Hid (∀ W, Below wi.heap.size wi W → W.cell? ⟨bl, ol + i * 2, none⟩ = some (.int .i64 y1) ∧ W.cell? ⟨bl, ol + i * 2 + 1, none⟩ = some (.int .i64 g9) ∧ (Instr.lookup 60 (.map (some mb)) (.int .i64 y1) false).run Tryz.prog W = .ok (.int .i64 g9) W) := Lib.hid (fun W hk => ⟨(HYC0.out W hk).1, (HYC0.out W hk).2, HLK.out W hk⟩)
              have hkd : Below wi.heap.size wi wi.drew := (Below.refl _ wi).drew
              clear hcell hy hy1 hy2 hy3 HYC0 HLK hs2 hs3 hs4 hs5 t2
              go_wp2_with fail
              as_aux_lemma =>
                refine wp_region_held_drew (S := fun w' => w'.cell? ⟨bl, ol + i * 2, none⟩ = some (.int .i64 y1) ∧ w'.cell? ⟨bl, ol + i * 2 + 1, none⟩ = some (.int .i64 g9) ∧ (Instr.lookup 60 (.map (some mb)) (.int .i64 y1) false).run Tryz.prog w' = .ok (.int .i64 g9) w') (by kernel_rfl) ?_ (fun hHeld => ?_)
                · exact HSA.out _ hkd
                refine wpAnyH_take (i := 0) (oi := ⟨some 104, _, _, _, _, _⟩) (v := ?_) rfl (by kernel_rfl) (by kernel_rfl) (by kernel_rfl) (fun _ _ _ h => h) (Or.inl ⟨by kernel_rfl, ?_⟩) (by assumption) ?_
                rotate_left
                · (intro w hSw; (try dsimp only at hSw); go_simp; try with_reducible rfl)
                (try simp only [Act.put, List.setIfInBounds_toArray, List.set_cons_zero, List.set_cons_succ])
                refine wpAnyH_take (i := 1) (oi := ⟨some 105, _, _, _, _, _⟩) (v := ?_) rfl (by kernel_rfl) (by kernel_rfl) (by kernel_rfl) (fun _ _ _ h => h) (Or.inl ⟨by kernel_rfl, ?_⟩) (by assumption) ?_
                rotate_left
                · (intro w hSw; (try dsimp only at hSw); go_simp; try with_reducible rfl)
                (try simp only [Act.put, List.setIfInBounds_toArray, List.set_cons_zero, List.set_cons_succ])
                refine wpAnyH_take (i := 2) (oi := ⟨some 106, _, _, _, _, _⟩) (v := ?_) rfl (by kernel_rfl) (by kernel_rfl) (by kernel_rfl) (fun _ _ _ h => h) (Or.inl ⟨by kernel_rfl, ?_⟩) (by assumption) ?_
                rotate_left
                · (intro w hSw; (try dsimp only at hSw); go_simp; try with_reducible rfl)
                (try simp only [Act.put, List.setIfInBounds_toArray, List.set_cons_zero, List.set_cons_succ])
                refine wpAnyH_take (i := 3) (oi := ⟨some 107, _, _, _, _, _⟩) (v := ?_) rfl (by kernel_rfl) (by kernel_rfl) (by kernel_rfl) (fun _ _ _ h => h) (Or.inl ⟨by kernel_rfl, ?_⟩) (by assumption) ?_
                rotate_left
                · (intro w hSw; (try dsimp only at hSw); go_simp; try with_reducible rfl)
                (try simp only [Act.put, List.setIfInBounds_toArray, List.set_cons_zero, List.set_cons_succ])
                refine wpAnyH_take (i := 4) (oi := ⟨some 108, _, _, _, _, _⟩) (v := ?_) rfl (by kernel_rfl) (by kernel_rfl) (by kernel_rfl) (fun _ _ _ h => h) (Or.inl ⟨by kernel_rfl, ?_⟩) (by assumption) ?_
                rotate_left
                · (intro w hSw; (try dsimp only at hSw); go_simp; try with_reducible rfl)
                (try simp only [Act.put, List.setIfInBounds_toArray, List.set_cons_zero, List.set_cons_succ])
                refine wpAnyH_take (i := 5) (oi := ⟨some 109, _, _, _, _, _⟩) (v := ?_) rfl (by kernel_rfl) (by kernel_rfl) (by kernel_rfl) (fun _ _ _ h => h) (Or.inl ⟨by kernel_rfl, ?_⟩) (by assumption) ?_
                rotate_left
                · (intro w hSw; (try dsimp only at hSw); go_simp; try with_reducible rfl)
                (try simp only [Act.put, List.setIfInBounds_toArray, List.set_cons_zero, List.set_cons_succ])
                refine wpAnyH_take (i := 6) (oi := ⟨some 110, _, _, _, _, _⟩) (v := ?_) rfl (by kernel_rfl) (by kernel_rfl) (by kernel_rfl) (fun _ _ _ h => h) (Or.inl ⟨by kernel_rfl, ?_⟩) (by assumption) ?_
                rotate_left
                · (intro w hSw; (try dsimp only at hSw); go_simp; try with_reducible rfl)
                (try simp only [Act.put, List.setIfInBounds_toArray, List.set_cons_zero, List.set_cons_succ])
                refine wpAnyH_take (i := 7) (oi := ⟨some 111, _, _, _, _, _⟩) (v := ?_) rfl (by kernel_rfl) (by kernel_rfl) (by kernel_rfl) (fun _ _ _ h => h) (Or.inl ⟨by kernel_rfl, ?_⟩) (by assumption) ?_
                rotate_left
                · (intro w hSw; (try dsimp only at hSw); go_simp; try with_reducible rfl)
                (try simp only [Act.put, List.setIfInBounds_toArray, List.set_cons_zero, List.set_cons_succ])
                refine wpAnyH_take (i := 8) (oi := ⟨some 112, _, _, _, _, _⟩) (v := ?_) rfl (by kernel_rfl) (by kernel_rfl) (by kernel_rfl) (fun _ _ _ h => h) (Or.inl ⟨by kernel_rfl, ?_⟩) (by assumption) ?_
                rotate_left
                · (intro w hSw; (try dsimp only at hSw); go_simp; try with_reducible rfl)
                (try simp only [Act.put, List.setIfInBounds_toArray, List.set_cons_zero, List.set_cons_succ])
                refine wpAnyH_take (i := 9) (oi := ⟨some 113, _, _, _, _, _⟩) (v := ?_) rfl (by kernel_rfl) (by kernel_rfl) (by kernel_rfl) (fun _ _ _ h => h) (Or.inl ⟨by kernel_rfl, ?_⟩) (by assumption) ?_
                rotate_left
                · (intro w hSw; (try dsimp only at hSw); go_simp; try with_reducible rfl)
                (try simp only [Act.put, List.setIfInBounds_toArray, List.set_cons_zero, List.set_cons_succ])
                refine wpAnyH_take (i := 10) (oi := ⟨some 114, _, _, _, _, _⟩) (v := ?_) rfl (by kernel_rfl) (by kernel_rfl) (by kernel_rfl) (fun _ _ _ h => h) (Or.inl ⟨by kernel_rfl, ?_⟩) (by assumption) ?_
                rotate_left
                · (intro w hSw; (try dsimp only at hSw); go_simp; try with_reducible rfl)
                (try simp only [Act.put, List.setIfInBounds_toArray, List.set_cons_zero, List.set_cons_succ])
                refine wpAnyH_take (i := 11) (oi := ⟨some 115, _, _, _, _, _⟩) (v := ?_) rfl (by kernel_rfl) (by kernel_rfl) (by kernel_rfl) (fun _ _ _ h => h) (Or.inl ⟨by kernel_rfl, ?_⟩) (by assumption) ?_
                rotate_left
                · (intro w hSw; (try dsimp only at hSw); go_simp; try with_reducible rfl)
                (try simp only [Act.put, List.setIfInBounds_toArray, List.set_cons_zero, List.set_cons_succ])
                refine wpAnyH_take (i := 12) (oi := ⟨some 116, _, _, _, _, _⟩) (v := ?_) rfl (by kernel_rfl) (by kernel_rfl) (by kernel_rfl) (fun _ _ _ h => h) (Or.inl ⟨by kernel_rfl, ?_⟩) (by assumption) ?_
                rotate_left
                · (intro w hSw; (try dsimp only at hSw); go_simp; try with_reducible rfl)
                (try simp only [Act.put, List.setIfInBounds_toArray, List.set_cons_zero, List.set_cons_succ])
                refine wpAnyH_done (by kernel_rfl) ?_ _
                have HKD := Lib.hid (HMP.out.more hkd)
                clear hHeld hkd
                go_wp2_with fail
                go_roundg (q - (i + 1))
                case measure => have := HGG.out; omega
                case rel => exact ⟨i + 1, by omega, rfl, by go_num, HKD.out⟩
            · have hltz2 : ¬ (i : Int) < (q : Int) := by omega
              go_wp2_with fail
              refine (HAW.out _).mono ?_
              rintro e wz ⟨rfl, hbz⟩
              have HKZ := Lib.hid (HBW2.out.trans (hbz.mono HBW2.out.size))
              clear hbz
              go_wp2_with fail
              go_ret
              exact ⟨rfl, HKZ.out⟩
    · have hb0 : (g0 != 0) = true := by simpa using hz
      clear hz
      go_wp2_with fail
      refine (HAW.out _).mono ?_
      rintro e wz ⟨rfl, hbz⟩
      have HKZ := Lib.hid (HK5.out.trans (hbz.mono HK5.out.size))
      clear hbz
      go_wp2_with fail
      go_ret
      exact ⟨rfl, HKZ.out⟩
  · have hb0 : (E != 0) = true := by simpa using hE0
    obtain ⟨w3, Q, hw3, hQ, hQl, hbw3, hQb⟩ := box_any w2 #[.int .i64 0, .int .u32 0, .slice none 0 0] 26
    have HQB := Lib.hid hQb
    obtain ⟨w4, hw4⟩ : ∃ w4, w3.setRow Q #[.int .i64 0, .int .u32 0, .slice none 0 0] = w4 := ⟨_, rfl⟩
    have hbw4 : Below w2.heap.size w2 w4 := by rw [← hw4]; exact below_row hbw3 (by omega) _
    have HKw4 := Lib.hid (HK2.out.trans (hbw4.mono HK2.out.size))
    have HQC : Hid (∀ W, Below w4.heap.size w4 W → W.cell? ⟨Q, 0, none⟩ = some (.int .i64 0) ∧ W.cell? ⟨Q, 1, none⟩ = some (.int .u32 0) ∧ W.cell? ⟨Q, 2, none⟩ = some (.slice none 0 0)) := Lib.hid (by
      have hq : w4.heap[Q]? = some (.cells #[.int .i64 0, .int .u32 0, .slice none 0 0] 26 (0, 0)) := by rw [← hw4]; exact setRow_heap _ _ _ _ _ _ hQb
      exact fun W hk => three_heads (keep_block hq hk))
    clear hb2 hbw3 hbw4 hQb hwhy hE0
    unfold planA
    go_wp2_with (refine wpList_store_row rfl _ _ _ rfl Q #[.int .i64 0, .int .u32 0, .slice none 0 0] rfl rfl 26 _ HQB.out (Tryz.sizePn _ _ _) rfl (one3 _ _ _ _ _) ?_)
    refine (HAW.out _).mono ?_
    rintro e wz ⟨rfl, hbz⟩
    have HKZ := Lib.hid (HKw4.out.trans (hbz.mono HKw4.out.size))
    clear hbz
    go_wp2_with fail
    go_ret
    exact ⟨rfl, HKZ.out⟩
end Go.Proofs.YtpfpojehcjmfnaaGreat
