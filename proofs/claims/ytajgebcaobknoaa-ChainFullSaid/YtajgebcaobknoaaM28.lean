/-
  The law of full cores: ChainFull.
  Conditions: the slices read as places, as wants; the numbers are of their kinds.
-/
import Derived.Test.YtajgebcaobknoaaM22
import Derived.Test.YtajgebcaobknoaaM23

/-
  The law of full cores: ChainFull.
  Conditions: the slices read as places, as wants; the numbers are of their kinds.
-/
set_option linter.unusedVariables false
set_option linter.unusedSimpArgs false
namespace Go.Proofs.Ytajgebcaobknoaa
open Go.RowKit

set_option maxRecDepth 100000 in
set_option maxHeartbeats 8000000 in
theorem full_law (f : Int) (m : Nat) (v : Value) (l : List Pl) (vw : Value) (ps : List Sp) (w : World) (h : PlsAt w v l) (ho : ∀ x ∈ l, PlOk x) (hm : m < 4294967296) (hv : ArgAt w vw ps) (hi : IntsS ps) :
    Calls Try.prog 5 #[planA f m v, vw] w (RetB (.bool true) w) := by
  have mixed : Try.prog.follows .mixedOrders = true := by kernel_rfl
  have HAW := Lib.hid (fun W => awake_any W)
  obtain ⟨A, cA, rfl, hlc, hcm⟩ := h.form
  obtain ⟨nl, hnl⟩ : ∃ nl, l.length = nl := ⟨_, rfl⟩
  rw [hnl] at h hlc ⊢
  have harg := hv
  obtain ⟨B, d, rfl, hc1, hc2, hnil, _⟩ := hv
  have hs := harg.cut 60 (by decide)
  have hi' := hi.take 60
  have hlq : (ps.take 60).length = min ps.length 60 := by rw [List.length_take, Nat.min_comm]
  have hmn : min (ps.length : Int) 60 = ((min ps.length 60 : Nat) : Int) := by omega
  have hmle : min ps.length 60 ≤ ps.length := Nat.min_le_left _ _
  have hm60 : min ps.length 60 ≤ 60 := Nat.min_le_right _ _
  generalize ps.take 60 = qs at *
  generalize ps.length = n at *
  generalize min n 60 = q at *
  have hmc : (q : Int) ≤ (d : Int) := by omega
  have hm0 : (0 : Int) ≤ (q : Int) := by omega
  have HLQ := Lib.hid hlq
  obtain ⟨w1, P, hw1, hP, hPl, hb1, hbox⟩ := box_any w #[.int .i64 f, .int .u32 m, .slice A nl cA] 25
  have HB1 := Lib.hid hb1
  have HBOX := Lib.hid hbox
  have HH : Hid (∀ W, Below w1.heap.size w1 W → PlsAt W (.slice A nl cA) l) := Lib.hid (fun W hk => h.keep (HB1.out.trans (hk.mono HB1.out.size)))
  have HS : Hid (∀ W, Below w1.heap.size w1 W → SpansAt W (.slice B q d) qs) := Lib.hid (fun W hk => hs.keep (HB1.out.trans (hk.mono HB1.out.size)))
  have HLI := Lib.hid (fun W (hk : Below w1.heap.size w1 W) => calls_iff (light_any f m (.slice A nl cA) l W (HH.out W hk)))
  have HK1 := Lib.hid (Below.refl w1.heap.size w1)
  have HNL := Lib.hid hnl
  obtain ⟨r0, r1, r2⟩ := three_heads hbox
  unfold planA at HLI ⊢
  clear h hb1 hbox harg hi hs hnil hnl hlq
  by_cases hlit : Lit l
  · have hL := hlit.light ho
    have HLY := Lib.hid (fun W hk => (HLI.out W hk).1 hlit)
    have hnl60 : nl ≤ 60 := by rw [← HNL.out]; exact hlit.2
    have HFT := Lib.hid (fun W hk => split_any f m (.slice A nl cA) l (.slice B q d) qs W (HH.out W hk) hL (HS.out W hk) hi' hm (by have := HNL.out; have := HLQ.out; omega))
    have HWY := Lib.hid (fun W hk => refWhyC_any f m (.slice A nl cA) l (.slice B q d) qs W (HH.out W hk) hL (HS.out W hk) hi' hm)
    have HLO := Lib.hid hL
    unfold planA at HFT HWY
    clear HLI hlit hL ho hi'
    go_enter Try.func5, Try.ntmps5
    go_wp2_with fail
    refine (HLY.out _ HK1.out).mono ?_
    rintro e w2 ⟨rfl, hb2⟩
    have HK2 := Lib.hid hb2
    clear hb2 r0 r1 r2 hw1 hP
    obtain ⟨r0, r1, r2⟩ := three_heads (keep_block HBOX.out HK2.out)
    go_wp2_with fail
    refine (HFT.out _ HK2.out).mono ?_
    rintro e w3 ⟨E, hwhy, hb3, hcase⟩
    have HK3 := Lib.hid (HK2.out.trans (hb3.mono HK2.out.size))
    have HWH := Lib.hid hwhy
    clear r0 r1 r2
    obtain ⟨r0, r1, r2⟩ := three_heads (keep_block HBOX.out HK3.out)
    rcases hcase with ⟨hE0, v3, rfl, hpl⟩ | ⟨hE0, rfl⟩
    · subst hE0
      have hg := HWH.out.zero
      have hinv := hg.all
      obtain ⟨Lq, aq, hst⟩ : ∃ Lq aq, chT f m l qs = (Lq, aq) := ⟨_, _, rfl⟩
      rw [hst] at hpl hinv
      simp only at hpl
      have hR : Right f m Lq := hinv.ready.right
      have hlen : Lq.length = nl + q := by have h1 := hinv.len; have h2 := HNL.out; have h3 := HLQ.out; simp only at h1; omega
      have hLq : LightL Lq := ⟨by omega, hinv.ok HLO.out.ok⟩
      obtain ⟨A3, d3, hv3, _, _⟩ := hpl.form
      obtain ⟨n3, hn3⟩ : ∃ n3, Lq.length = n3 := ⟨_, rfl⟩
      have HN3 := Lib.hid hn3
      rw [hn3] at hv3 hlen
      subst hv3
      obtain ⟨w4, Q, hw4, hQ, hQl, hb4, hqb⟩ := box_any w3 #[.int .i64 0, .int .u32 0, .slice none 0 0] 25
      have HQB := Lib.hid hqb
      obtain ⟨w5, hw5⟩ : ∃ w5, w4.setRow Q #[.int .i64 f, .int .u32 m, .slice A3 n3 d3] = w5 := ⟨_, rfl⟩
      have hb5 : Below w3.heap.size w3 w5 := by rw [← hw5]; exact below_row hb4 (by omega) _
      have HK5 := Lib.hid (HK3.out.trans (hb5.mono HK3.out.size))
      have HW5 := Lib.hid (HB1.out.trans (HK5.out.mono HB1.out.size))
      have HQ5 : Hid (w5.heap[Q]? = some (.cells #[.int .i64 f, .int .u32 m, .slice A3 n3 d3] 25 (0, 0))) := Lib.hid (by rw [← hw5]; exact setRow_heap _ _ _ _ _ _ hqb)
      have HQC : Hid (∀ W, Below w5.heap.size w5 W → W.cell? ⟨Q, 0, none⟩ = some (.int .i64 f) ∧ W.cell? ⟨Q, 1, none⟩ = some (.int .u32 m) ∧ W.cell? ⟨Q, 2, none⟩ = some (.slice A3 n3 d3)) := Lib.hid (fun W hk => three_heads (keep_block HQ5.out hk))
      have HPC : Hid (∀ W, Below w5.heap.size w5 W → W.cell? ⟨P, 0, none⟩ = some (.int .i64 f) ∧ W.cell? ⟨P, 1, none⟩ = some (.int .u32 m) ∧ W.cell? ⟨P, 2, none⟩ = some (.slice A nl cA)) := Lib.hid (fun W hk => three_heads (keep_block HBOX.out (HK5.out.trans (hk.mono HK5.out.size))))
      have HPQ : Hid (∀ W, Below w5.heap.size w5 W → PlsAt W (.slice A3 n3 d3) Lq) := Lib.hid (fun W hk => (hpl.any.keep hb5).keep hk)
      have HH5 : Hid (∀ W, Below w5.heap.size w5 W → PlsAt W (.slice A nl cA) l) := Lib.hid (fun W hk => HH.out W (HK5.out.trans (hk.mono HK5.out.size)))
      have HS5 : Hid (∀ W, Below w5.heap.size w5 W → SpansAt W (.slice B q d) qs) := Lib.hid (fun W hk => HS.out W (HK5.out.trans (hk.mono HK5.out.size)))
      have HK50 := Lib.hid (Below.refl w5.heap.size w5)
      have HPO := Lib.hid (fun x hx => (hLq.ok x hx).2)
      have HFU := Lib.hid (fun x (hx : x ∈ Lq) k y h1 h2 => hinv.full x hx k y h1 h2)
      have HRM := Lib.hid (fun c W hk => refRoom_any f m (.slice A3 n3 d3) Lq c W (HPQ.out W hk) hLq (shares_of hR.place hR.f64) hm (by have := hR.f2; omega) hR.f64)
      unfold planA at HRM
      have HLEN := Lib.hid hlen
      have hn3b : n3 ≤ 200 := by omega
      clear hpl hb3 hb4 hb5 hqb hinv hst hR hLq hg hn3 r0 r1 r2 hwhy hlen
      unfold planA
      obtain ⟨q0, q1, q2⟩ := HQC.out _ HK50.out
      obtain ⟨r0, r1, r2⟩ := HPC.out _ HK50.out
      go_wp2_with (refine wpList_store_row rfl _ _ _ rfl Q #[.int .i64 f, .int .u32 m, .slice A3 n3 d3] rfl rfl 25 _ HQB.out (Try.sizePn _ _ _) rfl (one3 _ _ _ _ _) ?_)
      clear q0 q1 q2 r0 r1 r2 hw5 hw4 hQ
      go_loopg [7, 8, 9] n3 (fun gg s7 _ _ wr => ∃ i : Nat, i ≤ n3 ∧ gg = n3 - i ∧ s7 = .int .i64 i ∧ Below w5.heap.size w5 wr)
      case atStart => exact ⟨0, Nat.zero_le _, by omega, rfl, HK50.out⟩
      case round =>
        obtain ⟨i, hin, hgg, rfl, hbw⟩ := hrel
        have HG := Lib.hid hgg
        have HBW := Lib.hid hbw
        obtain ⟨wo, rfl⟩ : ∃ wo : World, wo = wr := ⟨_, rfl⟩
        obtain ⟨q0, q1, q2⟩ := HQC.out _ HBW.out
        by_cases hlt : i < n3
        · have hltz : (i : Int) < (n3 : Int) := by omega
          have hi0 : (0 : Int) ≤ (i : Int) := by omega
          obtain ⟨z, hz⟩ := exP_at (xs := Lq) (k := i) (by rw [HN3.out]; exact hlt)
          have HIN := Lib.hid hlt
          have HZM := Lib.hid (List.mem_of_getElem? hz)
          obtain ⟨bp, op, Bp, dp, hA, hbp, _, hzc, hzp⟩ := (HPQ.out _ HK50.out).at_ hz
          subst hA
          have HZC := Lib.hid (fun W (hk : Below w5.heap.size w5 W) => hzc.keep (hk.block bp hbp))
          have HZP : Hid (∀ W, Below w5.heap.size w5 W → PcsAt W (.slice Bp z.ps.length dp) z.ps) := Lib.hid (fun W hk => hzp.keep hk)
          obtain ⟨c0, c1, c2, c3⟩ := HZC.out _ HBW.out
          obtain ⟨np, hnp⟩ : ∃ np, z.ps.length = np := ⟨_, rfl⟩
          have HNP := Lib.hid hnp
          simp only [hnp] at c3 HZP HZC
          clear hgg hbw hz hzc hzp hnp
          go_wp2_with fail
          clear c0 c1 c2 c3 q0 q1 q2
          go_loopg [9] np (fun gg s9 wr => ∃ k : Nat, k ≤ np ∧ gg = np - k ∧ s9 = .int .i64 k ∧ Below w5.heap.size w5 wr)
          case atStart => exact ⟨0, Nat.zero_le _, by omega, rfl, HBW.out⟩
          case round =>
            obtain ⟨k, hkn, hgk, rfl, hbk⟩ := hrel
            have HGK := Lib.hid hgk
            have HBK := Lib.hid hbk
            obtain ⟨wp, rfl⟩ : ∃ wp : World, wp = wr := ⟨_, rfl⟩
            have hzl : np ≤ 1000 := by rw [← HNP.out]; exact HPO.out z HZM.out
            by_cases hk1 : k + 1 < np
            · have hkz : (k : Int) + 1 < (np : Int) := by omega
              have hkz0 : (0 : Int) ≤ (k : Int) := by omega
              have hkz1 : (k : Int) < (np : Int) := by omega
              obtain ⟨y, hy⟩ := exP_at (xs := z.ps) (k := k) (by rw [HNP.out]; omega)
              obtain ⟨bq, oq, hAq, hbq, _, hyc⟩ := (HZP.out _ HK50.out).at_ hy
              subst hAq
              have hroom := HFU.out z HZM.out k y (by rw [HNP.out]; exact hk1) hy
              have hroom : roomN f m Lq y.c = 0 := hroom
              have HRY := Lib.hid (fun W hk => HRM.out y.c W hk)
              rw [hroom] at HRY
              obtain ⟨yc, hycc⟩ : ∃ yc, y.c = yc := ⟨_, rfl⟩
              rw [hycc] at HRY
              have HYC : Hid (∀ W, Below w5.heap.size w5 W → W.cell? ⟨bq, oq + k * 2, none⟩ = some (.int .i64 yc)) := Lib.hid fun W hk => by rw [← hycc]; exact (hyc.keep (hk.block bq hbq)).1
              have HSC : Hid (∀ W, Below w5.heap.size w5 W → W.cell? ⟨Q, 0, none⟩ = some (.int .i64 f) ∧ W.cell? ⟨Q, 1, none⟩ = some (.int .u32 m) ∧ W.cell? ⟨Q, 2, none⟩ = some (.slice (some ⟨bp, op, none⟩) n3 d3) ∧ W.cell? ⟨bq, oq + k * 2, none⟩ = some (.int .i64 yc)) := Lib.hid (fun W hk => by
                obtain ⟨a0, a1, a2⟩ := HQC.out W hk
                exact ⟨a0, a1, a2, HYC.out W hk⟩)
              have hkd := HBK.out.drew
              clear hgk hbk hroom hy hyc hycc
              go_wp2_with fail
              as_aux_lemma =>
                refine wp_region_held_drew (S := fun w' => w'.cell? ⟨Q, 0, none⟩ = some (.int .i64 f) ∧ w'.cell? ⟨Q, 1, none⟩ = some (.int .u32 m) ∧ w'.cell? ⟨Q, 2, none⟩ = some (.slice (some ⟨bp, op, none⟩) n3 d3) ∧ w'.cell? ⟨bq, oq + k * 2, none⟩ = some (.int .i64 yc)) (by kernel_rfl) ?_ (fun hHeld => ?_)
                · exact HSC.out _ hkd
                refine wpAnyH_take (i := 0) (oi := ⟨some 54, _, _, _, _, _⟩) (v := ?_) rfl (by kernel_rfl) (by kernel_rfl) (by kernel_rfl) (fun _ _ _ h => h) (Or.inl ⟨by kernel_rfl, ?_⟩) (by assumption) ?_
                rotate_left
                · (intro w hSw; (try dsimp only at hSw); go_simp; try with_reducible rfl)
                (try simp only [Act.put, List.setIfInBounds_toArray, List.set_cons_zero, List.set_cons_succ])
                refine wpAnyH_take (i := 1) (oi := ⟨some 55, _, _, _, _, _⟩) (v := ?_) rfl (by kernel_rfl) (by kernel_rfl) (by kernel_rfl) (fun _ _ _ h => h) (Or.inl ⟨by kernel_rfl, ?_⟩) (by assumption) ?_
                rotate_left
                · (intro w hSw; (try dsimp only at hSw); go_simp; try with_reducible rfl)
                (try simp only [Act.put, List.setIfInBounds_toArray, List.set_cons_zero, List.set_cons_succ])
                refine wpAnyH_take (i := 2) (oi := ⟨some 56, _, _, _, _, _⟩) (v := ?_) rfl (by kernel_rfl) (by kernel_rfl) (by kernel_rfl) (fun _ _ _ h => h) (Or.inl ⟨by kernel_rfl, ?_⟩) (by assumption) ?_
                rotate_left
                · (intro w hSw; (try dsimp only at hSw); go_simp; try with_reducible rfl)
                (try simp only [Act.put, List.setIfInBounds_toArray, List.set_cons_zero, List.set_cons_succ])
                refine wpAnyH_take (i := 3) (oi := ⟨some 57, _, _, _, _, _⟩) (v := ?_) rfl (by kernel_rfl) (by kernel_rfl) (by kernel_rfl) (fun _ _ _ h => h) (Or.inl ⟨by kernel_rfl, ?_⟩) (by assumption) ?_
                rotate_left
                · (intro w hSw; (try dsimp only at hSw); go_simp; try with_reducible rfl)
                (try simp only [Act.put, List.setIfInBounds_toArray, List.set_cons_zero, List.set_cons_succ])
                refine wpAnyH_take (i := 4) (oi := ⟨some 58, _, _, _, _, _⟩) (v := ?_) rfl (by kernel_rfl) (by kernel_rfl) (by kernel_rfl) (fun _ _ _ h => h) (Or.inl ⟨by kernel_rfl, ?_⟩) (by assumption) ?_
                rotate_left
                · (intro w hSw; (try dsimp only at hSw); go_simp; try with_reducible rfl)
                (try simp only [Act.put, List.setIfInBounds_toArray, List.set_cons_zero, List.set_cons_succ])
                refine wpAnyH_take (i := 5) (oi := ⟨some 59, _, _, _, _, _⟩) (v := ?_) rfl (by kernel_rfl) (by kernel_rfl) (by kernel_rfl) (fun _ _ _ h => h) (Or.inl ⟨by kernel_rfl, ?_⟩) (by assumption) ?_
                rotate_left
                · (intro w hSw; (try dsimp only at hSw); go_simp; try with_reducible rfl)
                (try simp only [Act.put, List.setIfInBounds_toArray, List.set_cons_zero, List.set_cons_succ])
                refine wpAnyH_ready (rs := [6]) (by kernel_rfl) (by simp) ?_
                refine AllReadyH.cons (o := ⟨some 60, _, _, _, _, _⟩) rfl (fun K hK => ?_) AllReadyH.nil
                rw [if_pos (by kernel_rfl)]
                go_simp
                go_at_call 20; refine (HRY.out _ hkd).mono ?_; rintro en wq ⟨rfl, hbr⟩
                have hkq := hkd.trans (hbr.mono hkd.size)
                refine hK.out _ _ ?_ (fun hHeld => ?_)
                · exact HSC.out _ hkq
                clear hK K
                (try simp only [Act.put, List.setIfInBounds_toArray, List.set_cons_zero, List.set_cons_succ])
                refine wpAnyH_take (i := 7) (oi := ⟨some 61, _, _, _, _, _⟩) (v := ?_) rfl (by kernel_rfl) (by kernel_rfl) (by kernel_rfl) (fun _ _ _ h => h) (Or.inl ⟨by kernel_rfl, ?_⟩) (by assumption) ?_
                rotate_left
                · (intro w hSw; (try dsimp only at hSw); go_simp; try with_reducible rfl)
                (try simp only [Act.put, List.setIfInBounds_toArray, List.set_cons_zero, List.set_cons_succ])
                refine wpAnyH_done (by kernel_rfl) ?_ _
                have HKQ := Lib.hid hkq
                clear hHeld hbr hkq
                go_wp2_with fail
                go_roundg (np - (k + 1))
                case measure => have := HGK.out; omega
                case rel => exact ⟨k + 1, by omega, rfl, by go_num, HKQ.out⟩
            · have hkz : ¬ (k : Int) + 1 < (np : Int) := by omega
              clear hgk hbk
              go_wp2_with fail
              go_roundg (n3 - (i + 1))
              case measure => have := HG.out; have := HIN.out; omega
              case rel => exact ⟨i + 1, by have := HIN.out; omega, rfl, by go_num, HBK.out⟩
        · have hltz : ¬ (i : Int) < (n3 : Int) := by omega
          clear hgg hbw
          go_wp2_with fail
          refine (HAW.out _).mono ?_
          rintro e w9 ⟨rfl, hb9⟩
          have HK9 := Lib.hid (HW5.out.trans ((HBW.out.trans (hb9.mono HBW.out.size)).mono HW5.out.size))
          clear hb9
          go_wp2_with fail
          go_ret
          exact ⟨rfl, HK9.out⟩
    · have hb0 : (E != 0) = true := by simpa using hE0
      have HE := Lib.hid hE0
      clear hb3 hwhy hE0
      obtain ⟨w4, Q, hw4, hQ, hQl, hb4, hqb⟩ := box_any w3 #[.int .i64 0, .int .u32 0, .slice none 0 0] 25
      have HK4 := Lib.hid (HK3.out.trans (hb4.mono HK3.out.size))
      have HQB := Lib.hid hqb
      obtain ⟨w5, hw5⟩ : ∃ w5, w4.setRow Q #[.int .i64 0, .int .u32 0, .slice none 0 0] = w5 := ⟨_, rfl⟩
      have hb5 : Below w3.heap.size w3 w5 := by rw [← hw5]; exact below_row hb4 (by omega) _
      have HK5 := Lib.hid (HK3.out.trans (hb5.mono HK3.out.size))
      clear r0 r1 r2 hb4 hb5 hqb
      unfold planA
      obtain ⟨r0, r1, r2⟩ := three_heads (keep_block HBOX.out HK5.out)
      go_wp2_with (refine wpList_store_row rfl _ _ _ rfl Q #[.int .i64 0, .int .u32 0, .slice none 0 0] rfl rfl 25 _ HQB.out (Try.sizePn _ _ _) rfl (one3 _ _ _ _ _) ?_)
      refine (HWY.out _ HK5.out).mono ?_
      rintro e w6 ⟨E', rfl, hwhy', hb6⟩
      have hEE : E' = E := hwhy'.unique HWH.out
      subst hEE
      have HK6 := Lib.hid (HK5.out.trans (hb6.mono HK5.out.size))
      clear hb6 hwhy' hw5 hw4 r0 r1 r2
      go_wp2_with fail
      refine (HAW.out _).mono ?_
      rintro e w7 ⟨rfl, hb7⟩
      have HK7 := Lib.hid (HB1.out.trans ((HK6.out.trans (hb7.mono HK6.out.size)).mono HB1.out.size))
      clear hb7
      go_wp2_with fail
      go_ret
      exact ⟨rfl, HK7.out⟩
  · have HLN := Lib.hid (fun W hk => (HLI.out W hk).2 hlit)
    clear HLI hlit ho hi'
    go_enter Try.func5, Try.ntmps5
    go_wp2_with fail
    refine (HLN.out _ HK1.out).mono ?_
    rintro e w2 ⟨rfl, hb2⟩
    have HK2 := Lib.hid hb2
    clear hb2
    go_wp2_with fail
    refine (HAW.out _).mono ?_
    rintro e w3 ⟨rfl, hb3⟩
    have HK3 := Lib.hid (HB1.out.trans ((HK2.out.trans (hb3.mono HK2.out.size)).mono HB1.out.size))
    clear hb3
    go_wp2_with fail
    go_ret
    exact ⟨rfl, HK3.out⟩
end Go.Proofs.Ytajgebcaobknoaa
