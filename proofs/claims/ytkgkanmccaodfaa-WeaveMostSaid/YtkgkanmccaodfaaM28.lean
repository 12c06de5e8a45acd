/-
  The law of how many ticks there are: WeaveMost.
  Conditions: the slice reads as places; the numbers are of their kinds.
-/
import Derived.Test.YtkgkanmccaodfaaM26

/-
  The law of how many ticks there are: WeaveMost.
  Conditions: the slice reads as places; the numbers are of their kinds.
-/
set_option linter.unusedVariables false
set_option linter.unusedSimpArgs false
namespace Go.Proofs.Ytkgkanmccaodfaa
open Go.RowKit

set_option maxRecDepth 100000 in
set_option maxHeartbeats 8000000 in
theorem most_law (f : Int) (m : Nat) (v : Value) (l : List Pl) (w : World) (h : PlsAt w v l) (ho : ∀ x ∈ l, PlOk x) (hm : m < 4294967296) :
    Calls Try.prog 3 #[planA f m v] w (RetB (.bool true) w) := by
  have mixed : Try.prog.follows .mixedOrders = true := by kernel_rfl
  have HAW := Lib.hid (fun W => awake21_any W)
  obtain ⟨w1, P, hw1, hP, hPl, hb1, hbox⟩ := box_any w #[.int .i64 f, .int .u32 m, v] 25
  have HB1 := Lib.hid hb1
  have HBOX := Lib.hid hbox
  have HPL : Hid (∀ W, Below w1.heap.size w1 W → PlsAt W v l) := Lib.hid (fun W hk => h.keep (HB1.out.trans (hk.mono HB1.out.size)))
  have HLI := Lib.hid (fun W (hk : Below w1.heap.size w1 W) => calls_iff (light_any f m v l W (HPL.out W hk)))
  have HSA : Hid (∀ W, Below w1.heap.size w1 W → W.cell? ⟨P, 0, none⟩ = some (.int .i64 f) ∧ W.cell? ⟨P, 1, none⟩ = some (.int .u32 m) ∧ W.cell? ⟨P, 2, none⟩ = some v) := Lib.hid (fun W hk => three_heads (keep_block HBOX.out hk))
  have HK1 := Lib.hid (Below.refl w1.heap.size w1)
  obtain ⟨r0, r1, r2⟩ := HSA.out _ HK1.out
  unfold planA at HLI ⊢
  clear h hb1 hbox
  by_cases hlit : Lit l
  · have hL := hlit.light ho
    have HLY := Lib.hid (fun W hk => (HLI.out W hk).1 hlit)
    have HRI := Lib.hid (fun W hk => calls_iff (right_any f m v l W (HPL.out W hk) hL hm))
    have HMO := Lib.hid (fun W h => wvMost_any f m v l W h hL hm)
    have HL := Lib.hid hL
    have HMM := Lib.hid hm
    unfold planA at HRI HMO
    clear HLI hlit hL ho hm
    by_cases hr : Right f m l
    · have HRT := Lib.hid hr
      have HRY := Lib.hid (fun W hk => (HRI.out W hk).1 hr)
      have HCO := Lib.hid (fun W => refCores_any f m v W HMM.out)
      have HGA := Lib.hid (fun W h => refGaps_any f m v l W h HL.out hr)
      have HRO := Lib.hid (fun W h => refRooms21_any f m v l W h HL.out hr)
      have HRC : Hid (∀ (W : World) (g : Nat), RowC W g (fun i => roomN f m l (i : Int)) → RowC W g (fun i => ((rmN f m l i : Nat) : Int))) := Lib.hid (fun W g h => h.congr fun i hi => (HRT.out.rm hi).1.symm)
      have HRM := Lib.hid (fun g h c1 c2 h1 h2 W hG hR => refMost_any (gapT f m l) (rmN f m l) g h c1 c2 h1 h2 (fun c _ => gap_lt f m l c) (fun c hc => by have := (HRT.out.rm hc).2.1; have := HRT.out.f64; omega) 0 (by omega) W hG hR)
      obtain ⟨KM, hKM⟩ : ∃ KM, mostT (gapT f m l) (rmN f m l) 0 = KM := ⟨_, rfl⟩
      have HMT := Lib.hid hKM
      rw [hKM] at HRM
      have HTL : Hid ((ticksI m 16).length = coresN m) := Lib.hid (by rw [ticksI_length]; rfl)
      obtain ⟨n, hn⟩ : ∃ n, coresN m = n := ⟨_, rfl⟩
      rw [hn] at HTL
      unfold planA at HCO HGA HRO
      clear HRI hr hKM hn
      go_enter Try.func3, Try.ntmps3
      go_wp2_with fail
      refine (HLY.out _ HK1.out).mono ?_
      rintro e w2 ⟨rfl, hb2⟩
      have HK2 := Lib.hid hb2
      clear hb2 r0 r1 r2 hw1 hP
      obtain ⟨r0, r1, r2⟩ := HSA.out _ HK2.out
      go_wp2_with fail
      refine (HRY.out _ HK2.out).mono ?_
      rintro e w3 ⟨rfl, hb3⟩
      have HK3 := Lib.hid (HK2.out.trans (hb3.mono HK2.out.size))
      clear hb3 r0 r1 r2
      obtain ⟨r0, r1, r2⟩ := HSA.out _ HK3.out
      go_wp2_with fail
      refine (HCO.out _).mono ?_
      rintro e w4 ⟨v4, rfl, hv4, hb4⟩
      have HK4 := Lib.hid (HK3.out.trans (hb4.mono HK3.out.size))
      obtain ⟨A4, c4, rfl, _, _⟩ := hv4
      rw [HTL.out]
      clear hb4 r0 r1 r2
      by_cases h8 : 8 < n
      · have hd : decide ((8 : Int) < (n : Int)) = true := decide_eq_true (by omega)
        go_wp2_with fail
        refine (HAW.out _).mono ?_
        rintro e w5 ⟨rfl, hb5⟩
        have HBE := Lib.hid (HB1.out.trans ((HK4.out.trans (hb5.mono HK4.out.size)).mono HB1.out.size))
        clear hb5
        go_wp2_with fail
        go_ret
        exact ⟨rfl, HBE.out⟩
      · have hd : decide ((8 : Int) < (n : Int)) = false := decide_eq_false (by omega)
        have hkd := HK4.out.drew
        go_wp2_with fail
        refine wp_region_held_drew (S := fun w' => w'.cell? ⟨P, 0, none⟩ = some (.int .i64 f) ∧ w'.cell? ⟨P, 1, none⟩ = some (.int .u32 m) ∧ w'.cell? ⟨P, 2, none⟩ = some (v)) (by kernel_rfl) ?_ (fun hHeld => ?_)
        · exact HSA.out _ hkd
        refine wpAnyH_take (i := 0) (oi := ⟨some 21, _, _, _, _, _⟩) (v := ?_) rfl (by kernel_rfl) (by kernel_rfl) (by kernel_rfl) (fun _ _ _ h => h) (Or.inl ⟨by kernel_rfl, ?_⟩) (by assumption) ?_
        rotate_left
        · (intro w hSw; (try dsimp only at hSw); go_simp; try with_reducible rfl)
        (try simp only [Act.put, List.setIfInBounds_toArray, List.set_cons_zero, List.set_cons_succ])
        refine wpAnyH_take (i := 2) (oi := ⟨some 23, _, _, _, _, _⟩) (v := ?_) rfl (by kernel_rfl) (by kernel_rfl) (by kernel_rfl) (fun _ _ _ h => h) (Or.inl ⟨by kernel_rfl, ?_⟩) (by assumption) ?_
        rotate_left
        · (intro w hSw; (try dsimp only at hSw); go_simp; try with_reducible rfl)
        (try simp only [Act.put, List.setIfInBounds_toArray, List.set_cons_zero, List.set_cons_succ])
        refine wpAnyH_take (i := 4) (oi := ⟨some 25, _, _, _, _, _⟩) (v := ?_) rfl (by kernel_rfl) (by kernel_rfl) (by kernel_rfl) (fun _ _ _ h => h) (Or.inl ⟨by kernel_rfl, ?_⟩) (by assumption) ?_
        rotate_left
        · (intro w hSw; (try dsimp only at hSw); go_simp; try with_reducible rfl)
        (try simp only [Act.put, List.setIfInBounds_toArray, List.set_cons_zero, List.set_cons_succ])
        refine wpAnyH_ready (rs := [1]) (by kernel_rfl) (by simp) ?_
        refine AllReadyH.cons (o := ⟨some 22, _, _, _, _, _⟩) rfl (fun K hK => ?_) AllReadyH.nil
        rw [if_pos (by kernel_rfl)]
        go_simp
        go_at_call 9; refine (HMO.out _ (HPL.out _ hkd)).mono ?_; rintro e wa ⟨km, rfl, hkm, _, hba⟩
        have hka := hkd.trans (hba.mono hkd.size)
        have hkm2 := hkm HRT.out
        rw [HMT.out] at hkm2
        subst hkm2
        refine hK.out _ _ ?_ (fun hHeld => ?_)
        · exact HSA.out _ hka
        clear hK K
        (try simp only [Act.put, List.setIfInBounds_toArray, List.set_cons_zero, List.set_cons_succ])
        refine wpAnyH_ready (rs := [3]) (by kernel_rfl) (by simp) ?_
        refine AllReadyH.cons (o := ⟨some 24, _, _, _, _, _⟩) rfl (fun K hK => ?_) AllReadyH.nil
        rw [if_pos (by kernel_rfl)]
        go_simp
        go_at_call 12; refine (HGA.out _ (HPL.out _ hka)).mono ?_; rintro e wb ⟨v7, rfl, hown7, hbb⟩
        obtain ⟨g, c7, rfl, _, hc7, hrow7⟩ := rowU_of_own hown7
        have hkb := hka.trans (hbb.mono hka.size)
        refine hK.out _ _ ?_ (fun hHeld => ?_)
        · exact HSA.out _ hkb
        clear hK K
        (try simp only [Act.put, List.setIfInBounds_toArray, List.set_cons_zero, List.set_cons_succ])
        refine wpAnyH_ready (rs := [5]) (by kernel_rfl) (by simp) ?_
        refine AllReadyH.cons (o := ⟨some 26, _, _, _, _, _⟩) rfl (fun K hK => ?_) AllReadyH.nil
        rw [if_pos (by kernel_rfl)]
        go_simp
        go_at_call 13; refine (HRO.out _ (HPL.out _ hkb)).mono ?_; rintro e wc ⟨v8, rfl, hown8, hbc⟩
        obtain ⟨h8, c8, rfl, _, hc8, hrow8⟩ := rowC_of_own16 hown8
        have hkc := hkb.trans (hbc.mono hkb.size)
        refine hK.out _ _ ?_ (fun hHeld => ?_)
        · exact HSA.out _ hkc
        clear hK K
        (try simp only [Act.put, List.setIfInBounds_toArray, List.set_cons_zero, List.set_cons_succ])
        refine wpAnyH_ready (rs := [6]) (by kernel_rfl) (by simp) ?_
        refine AllReadyH.cons (o := ⟨some 27, _, _, _, _, _⟩) rfl (fun K hK => ?_) AllReadyH.nil
        rw [if_pos (by kernel_rfl)]
        go_simp
        go_at_call 11; refine (HRM.out g h8 c7 c8 hc7 hc8 wc (hrow7.keep hbc) (HRC.out _ _ hrow8)).mono ?_; rintro e wd ⟨rfl, hbd⟩
        have hkd2 := hkc.trans (hbd.mono hkc.size)
        refine hK.out _ _ ?_ (fun hHeld => ?_)
        · exact HSA.out _ hkd2
        clear hK K
        (try simp only [Act.put, List.setIfInBounds_toArray, List.set_cons_zero, List.set_cons_succ])
        refine wpAnyH_take (i := 7) (oi := ⟨some 28, _, _, _, _, _⟩) (v := ?_) rfl (by kernel_rfl) (by kernel_rfl) (by kernel_rfl) (fun _ _ _ h => h) (Or.inl ⟨by kernel_rfl, ?_⟩) (by assumption) ?_
        rotate_left
        · (intro w hSw; (try dsimp only at hSw); go_simp; try with_reducible rfl)
        (try simp only [Act.put, List.setIfInBounds_toArray, List.set_cons_zero, List.set_cons_succ])
        refine wpAnyH_take (i := 8) (oi := ⟨some 29, _, _, _, _, _⟩) (v := ?_) rfl (by kernel_rfl) (by kernel_rfl) (by kernel_rfl) (fun _ _ _ h => h) (Or.inl ⟨by kernel_rfl, ?_⟩) (by assumption) ?_
        rotate_left
        · (intro w hSw; (try dsimp only at hSw); go_simp; try with_reducible rfl)
        (try simp only [Act.put, List.setIfInBounds_toArray, List.set_cons_zero, List.set_cons_succ])
        refine wpAnyH_ready (rs := [9]) (by kernel_rfl) (by simp) ?_
        refine AllReadyH.cons (o := ⟨some 30, _, _, _, _, _⟩) rfl (fun K hK => ?_) AllReadyH.nil
        rw [if_pos (by kernel_rfl)]
        go_simp
        go_at_call 7; refine (HAW.out _).mono ?_; rintro e we ⟨rfl, hbe⟩
        have hke := hkd2.trans (hbe.mono hkd2.size)
        refine hK.out _ _ ?_ (fun hHeld => ?_)
        · exact HSA.out _ hke
        clear hK K
        (try simp only [Act.put, List.setIfInBounds_toArray, List.set_cons_zero, List.set_cons_succ])
        refine wpAnyH_take (i := 10) (oi := ⟨some 31, _, _, _, _, _⟩) (v := ?_) rfl (by kernel_rfl) (by kernel_rfl) (by kernel_rfl) (fun _ _ _ h => h) (Or.inl ⟨by kernel_rfl, ?_⟩) (by assumption) ?_
        rotate_left
        · (intro w hSw; (try dsimp only at hSw); go_simp; try with_reducible rfl)
        (try simp only [Act.put, List.setIfInBounds_toArray, List.set_cons_zero, List.set_cons_succ])
        refine wpAnyH_take (i := 11) (oi := ⟨some 2, _, _, _, _, _⟩) (v := ?_) rfl (by kernel_rfl) (by kernel_rfl) (by kernel_rfl) (fun _ _ _ h => h) (Or.inl ⟨by kernel_rfl, ?_⟩) (by assumption) ?_
        rotate_left
        · (intro w hSw; (try dsimp only at hSw); go_simp; try with_reducible rfl)
        (try simp only [Act.put, List.setIfInBounds_toArray, List.set_cons_zero, List.set_cons_succ])
        refine wpAnyH_done (by kernel_rfl) ?_ _
        have HBE := Lib.hid (HB1.out.trans (hke.mono HB1.out.size))
        clear hHeld hke hkd2 hkc hkb hka hkd hba hbb hbc hbd hbe hown7 hown8 hrow7 hrow8
        go_wp2_with fail
        go_ret
        exact ⟨rfl, HBE.out⟩
    · have HRN := Lib.hid (fun W hk => (HRI.out W hk).2 hr)
      have HNR := Lib.hid hr
      clear HRI hr
      go_enter Try.func3, Try.ntmps3
      go_wp2_with fail
      refine (HLY.out _ HK1.out).mono ?_
      rintro e w2 ⟨rfl, hb2⟩
      have HK2 := Lib.hid hb2
      clear hb2 r0 r1 r2 hw1 hP
      obtain ⟨r0, r1, r2⟩ := HSA.out _ HK2.out
      go_wp2_with fail
      refine (HRN.out _ HK2.out).mono ?_
      rintro e w3 ⟨rfl, hb3⟩
      have HK3 := Lib.hid (HK2.out.trans (hb3.mono HK2.out.size))
      clear hb3 r0 r1 r2
      obtain ⟨r0, r1, r2⟩ := HSA.out _ HK3.out
      go_wp2_with fail
      refine (HMO.out _ (HPL.out _ HK3.out)).mono ?_
      rintro e w4 ⟨km, rfl, _, hkm, hb4⟩
      have hk0 := hkm HNR.out
      subst hk0
      have HK4 := Lib.hid (HK3.out.trans (hb4.mono HK3.out.size))
      clear hb4 hkm r0 r1 r2
      go_wp2_with fail
      refine (HAW.out _).mono ?_
      rintro e w5 ⟨rfl, hb5⟩
      have HBE := Lib.hid (HB1.out.trans ((HK4.out.trans (hb5.mono HK4.out.size)).mono HB1.out.size))
      clear hb5
      go_wp2_with fail
      go_ret
      exact ⟨rfl, HBE.out⟩
  · have HLN := Lib.hid (fun W hk => (HLI.out W hk).2 hlit)
    clear HLI hlit
    go_enter Try.func3, Try.ntmps3
    go_wp2_with fail
    refine (HLN.out _ HK1.out).mono ?_
    rintro e w2 ⟨rfl, hb2⟩
    have HK2 := Lib.hid hb2
    clear hb2 r0 r1 r2 hw1 hP
    go_wp2_with fail
    refine (HAW.out _).mono ?_
    rintro e w5 ⟨rfl, hb5⟩
    have HBE := Lib.hid (HB1.out.trans ((HK2.out.trans (hb5.mono HK2.out.size)).mono HB1.out.size))
    clear hb5
    go_wp2_with fail
    go_ret
    exact ⟨rfl, HBE.out⟩
end Go.Proofs.Ytkgkanmccaodfaa
