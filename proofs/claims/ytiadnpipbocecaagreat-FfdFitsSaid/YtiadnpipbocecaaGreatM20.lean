/-
  Why wants are not placed, of program and document.
  Conditions: the slices read as places, as wants; the numbers are of their kinds.
-/
import Derived.Test.YtiadnpipbocecaaGreatM15
import Derived.Test.YtiadnpipbocecaaGreatM07
import Derived.Test.YtiadnpipbocecaaGreatM18
import Derived.Test.YtiadnpipbocecaaGreatM19

/-
  Why wants are not placed, of program and document.
  Conditions: the slices read as places, as wants; the numbers are of their kinds.
-/
set_option linter.unusedVariables false
set_option linter.unusedSimpArgs false
namespace Go.Proofs.YtiadnpipbocecaaGreat
open Go.RowKit

/-- Why wants are not placed, as an answer. -/
def RetWhy (f : Int) (m : Nat) (l : List Pl) (ws : List Sp) (w : World) (e : Ending) (w' : World) : Prop := ∃ E : Int, e = .returned (.int .i64 E) ∧ Why f m l ws E ∧ Below w.heap.size w w'
theorem anyB_take {l : List Pl} {ws : List Sp} {k : Nat} {y : Sp} (h : ws[k]? = some y) : anyB l (ws.take (k + 1)) = (anyB l (ws.take k) || (findU l y.1).isSome) := by
  unfold anyB
  rw [List.take_add_one, h, Option.toList_some, List.any_append]
  simp
theorem anyB_hit {l : List Pl} {ws : List Sp} {k : Nat} {y : Sp} (h : ws[k]? = some y) (hf : (findU l y.1).isSome = true) : anyB l ws = true := List.any_eq_true.2 ⟨y, List.mem_of_getElem? h, hf⟩

set_option maxRecDepth 100000 in
set_option maxHeartbeats 4000000 in
theorem checkF_any (f : Int) (m : Nat) (v : Value) (l : List Pl) (vw : Value) (ws : List Sp) (w : World) (h : PlsAt w v l) (hL : LightL l) (hw : SpansAt w vw ws) (hi : IntsS ws) (hm : m < 4294967296) :
    Calls Tryz.prog 25 #[planA f m v, vw] w (RetWhy f m l ws w) := by
  have HPC := Lib.hid (fun w h => planCheck_any f m v l w h hL.wide hm)
  have HOC := Lib.hid (fun w h => check_any f vw ws w h hi)
  have HFI := Lib.hid (fun u w h => find_any f m v l u w h (by have := hL.len; omega) (fun x hx => (hL.ok x hx).2))
  have HH := Lib.hid h
  have HW := Lib.hid hw
  unfold planA at HPC HFI
  unfold RetFind at HFI
  obtain ⟨w1, P, hw1, hP, hPl, hb1, hbox⟩ := box_any w #[.int .i64 f, .int .u32 m, v] 25
  have HB1 := Lib.hid hb1
  have HBOX := Lib.hid hbox
  obtain ⟨r0, r1, r2⟩ := three_heads hbox
  clear h hL hw hi hb1 hbox
  unfold planA
  go_enter Tryz.func25, Tryz.ntmps25
  go_wp2_with fail
  refine (HPC.out _ (HH.out.keep HB1.out)).mono ?_
  rintro e w2 ⟨E1, rfl, hE1, hiff, hb2⟩
  have HB2 := Lib.hid (HB1.out.trans (hb2.mono HB1.out.size))
  have HBX2 := Lib.hid (keep_block HBOX.out hb2)
  clear hb2 r0 r1 r2 hw1 hP
  rcases hE1 with rfl | rfl
  · have HR := Lib.hid (hiff.1 rfl)
    obtain ⟨r0, r1, r2⟩ := three_heads HBX2.out
    have HOC2 := Lib.hid (HOC.out _ (HW.out.keep HB2.out))
    obtain ⟨E2, hE2⟩ : ∃ E2, chkT f ws = E2 := ⟨_, rfl⟩
    rw [hE2] at HOC2
    have HE2 := Lib.hid hE2
    clear hiff hE2 HOC
    go_wp2_with fail
    refine HOC2.out.mono ?_
    rintro e w3 ⟨rfl, hb3⟩
    have HB3 := Lib.hid (HB2.out.trans (hb3.mono HB2.out.size))
    have HBX3 := Lib.hid (keep_block HBX2.out hb3)
    clear hb3 r0 r1 r2
    by_cases he : E2 = 0
    · subst he
      obtain ⟨A, c, rfl, hc1, hc3, hc2, hat⟩ := HW.out
      have HAT := Lib.hid hat
      obtain ⟨n, hn⟩ : ∃ n, ws.length = n := ⟨_, rfl⟩
      rw [hn] at HW HAT hc1 hc3 ⊢
      have HN := Lib.hid hn
      clear hat hn
      go_wp2_with fail
      go_loopg [8, 9, 10, 25] n (fun gg _ _ _ s25 wr => ∃ k : Nat, k ≤ n ∧ gg = n - k ∧ s25 = .int .i64 k ∧ Hid (anyB l (ws.take k) = false) ∧ Below w3.heap.size w3 wr)
      case atStart => exact ⟨0, Nat.zero_le _, by omega, rfl, rfl, Below.refl _ _⟩
      case round =>
        obtain ⟨k, hk, hg, rfl, HLO, hbw⟩ := hrel
        have HG := Lib.hid hg
        have HBW := Lib.hid hbw
        have HB := Lib.hid (HB3.out.trans (hbw.mono HB3.out.size))
        by_cases hlt : k < n
        · have hltz : (k : Int) < (n : Int) := by omega
          have hk0 : (0 : Int) ≤ (k : Int) := by omega
          obtain ⟨y, hy⟩ := ex_at (xs := ws) (k := k) (by rw [HN.out]; exact hlt)
          obtain ⟨b, off, hA, hbl, hcell⟩ := HAT.out (by omega)
          subst hA
          obtain ⟨c1, c2⟩ := (hcell k y hy).keep HB.out hbl
          have HY := Lib.hid hy
          obtain ⟨w4, N, hw4, hN, hNl, hb4, hnb⟩ := box_any wr #[.int .i64 y.1, .int .i64 y.2] 45
          have HB4 := Lib.hid (HB.out.trans (hb4.mono HB.out.size))
          have HBW4 := Lib.hid (HBW.out.trans (hb4.mono HBW.out.size))
          obtain ⟨n0, n1⟩ := two_heads hnb
          obtain ⟨r0, r1, r2⟩ := three_heads (keep_block (keep_block HBX3.out hbw) hb4)
          have HFY := Lib.hid (HFI.out y.1 _ (HH.out.keep HB4.out))
          obtain ⟨o, ho⟩ : ∃ o, findU l y.1 = o := ⟨_, rfl⟩
          rw [ho] at HFY
          have HO := Lib.hid ho
          obtain ⟨x, hx⟩ : ∃ x, o.getD zeroPl = x := ⟨_, rfl⟩
          obtain ⟨q, hq⟩ : ∃ q, o.isSome = q := ⟨_, rfl⟩
          rw [hx, hq] at HFY
          have HQ := Lib.hid hq
          clear hbw hg hcell hy hb4 hnb ho hx hq
          cases q with
          | false =>
            have HLON : Hid (anyB l (ws.take (k + 1)) = false) := Lib.hid (by rw [anyB_take HY.out, HLO, HO.out, HQ.out]; rfl)
            go_wp2_with fail
            refine HFY.out.mono ?_
            rintro e w5 ⟨v5, rfl, hps, hb5⟩
            have HB5 := Lib.hid (HBW4.out.trans (hb5.mono HBW4.out.size))
            obtain ⟨A5, d5, rfl⟩ := hps.form
            have hs5 := HB5.out.size
            unfold plA
            obtain ⟨w6, M, hw6, hM, hMl, hb6, hmb⟩ := box_any w5 #[.int .i64 x.u, .int .i64 x.s, .int .i64 x.c, .slice A5 x.ps.length d5] 43
            have HB6 := Lib.hid (HB5.out.trans (hb6.mono HB5.out.size))
            clear hps hb5 hb6 hmb r0 r1 r2 n0 n1 c1 c2 hw4 hN
            go_wp2_with fail
            go_roundg (n - (k + 1))
            case measure => have := HG.out; omega
            case rel => exact ⟨k + 1, by omega, rfl, by go_num, HLON, HB6.out⟩
          | true =>
            have HW11 : Hid (Why f m l ws 11) := Lib.hid (.inr (.inr (.inl ⟨HR.out, HE2.out, anyB_hit HY.out (by rw [HO.out]; exact HQ.out), rfl⟩)))
            go_wp2_with fail
            refine HFY.out.mono ?_
            rintro e w5 ⟨v5, rfl, hps, hb5⟩
            have HB5 := Lib.hid (HB4.out.trans (hb5.mono HB4.out.size))
            obtain ⟨A5, d5, rfl⟩ := hps.form
            unfold plA
            obtain ⟨w6, M, hw6, hM, hMl, hb6, hmb⟩ := box_any w5 #[.int .i64 x.u, .int .i64 x.s, .int .i64 x.c, .slice A5 x.ps.length d5] 43
            have HB6 := Lib.hid (HB5.out.trans (hb6.mono HB5.out.size))
            clear hps hb5 hb6 hmb r0 r1 r2 n0 n1 c1 c2 hw4 hN
            go_wp2_with fail
            go_ret
            exact ⟨11, rfl, HW11.out, HB6.out⟩
        · have hltz : ¬ (k : Int) < (n : Int) := by omega
          have HW0 : Hid (Why f m l ws 0) := Lib.hid (.inr (.inr (.inr ⟨HR.out, HE2.out, by rw [List.take_of_length_le (by have := HN.out; omega)] at HLO; exact HLO, rfl⟩)))
          clear hbw hg
          go_wp2_with fail
          go_ret
          exact ⟨0, rfl, HW0.out, HB.out⟩
    · have HWE : Hid (Why f m l ws E2) := Lib.hid (.inr (.inl ⟨HR.out, by rw [HE2.out]; exact he, HE2.out.symm⟩))
      have hb0 : (E2 != 0) = true := by simpa using he
      clear he
      go_wp2_with fail
      go_ret
      exact ⟨E2, rfl, HWE.out, HB3.out⟩
  · have HW30 : Hid (Why f m l ws 30) := Lib.hid (.inl ⟨fun h => by have := hiff.2 h; omega, rfl⟩)
    clear hiff
    go_wp2_with fail
    go_ret
    exact ⟨30, rfl, HW30.out, HB2.out⟩

set_option maxRecDepth 100000 in
set_option maxHeartbeats 8000000 in
theorem refWhy_any (f : Int) (m : Nat) (v : Value) (l : List Pl) (vw : Value) (ws : List Sp) (w : World) (h : PlsAt w v l) (hL : LightL l) (hw : SpansAt w vw ws) (hi : IntsS ws) (hm : m < 4294967296) :
    Calls Tryz.prog 10 #[planA f m v, vw] w (RetWhy f m l ws w) := by
  have mixed : Tryz.prog.follows .mixedOrders = true := by kernel_rfl
  have HRI := Lib.hid (fun w h => calls_iff (right_any f m v l w h hL hm))
  have HOC := Lib.hid (fun w h => refCheck_any f vw ws w h hi)
  have HFI := Lib.hid (fun u w h => refFind_any f m v l u w h (by have := hL.len; omega))
  have HH := Lib.hid h
  have HW := Lib.hid hw
  unfold planA at HRI HFI
  unfold RetFind at HFI
  obtain ⟨w1, P, hw1, hP, hPl, hb1, hbox⟩ := box_any w #[.int .i64 f, .int .u32 m, v] 25
  have HB1 := Lib.hid hb1
  have HBOX := Lib.hid hbox
  obtain ⟨r0, r1, r2⟩ := three_heads hbox
  clear h hL hw hi hb1 hbox
  unfold planA
  by_cases hr : Right f m l
  · have HRY := Lib.hid ((HRI.out _ (HH.out.keep HB1.out)).1 hr)
    have HR := Lib.hid hr
    obtain ⟨E2, hE2⟩ : ∃ E2, chkT f ws = E2 := ⟨_, rfl⟩
    rw [hE2] at HOC
    have HE2 := Lib.hid hE2
    clear HRI hr hE2
    go_enter Tryz.func10, Tryz.ntmps10
    go_wp2_with fail
    refine HRY.out.mono ?_
    rintro e w2 ⟨rfl, hb2⟩
    have HK2 := Lib.hid hb2
    clear hb2 r0 r1 r2 hw1 hP
    obtain ⟨r0, r1, r2⟩ := three_heads (keep_block HBOX.out HK2.out)
    go_wp2_with fail
    refine (HOC.out _ (HW.out.keep (HB1.out.trans (HK2.out.mono HB1.out.size)))).mono ?_
    rintro e w3 ⟨rfl, hb3⟩
    have HK3 := Lib.hid (HK2.out.trans (hb3.mono HK2.out.size))
    clear hb3 r0 r1 r2
    by_cases he : E2 = 0
    · subst he
      obtain ⟨A, c, rfl, hc1, hc3, hc2, hat⟩ := HW.out
      have HAT := Lib.hid hat
      obtain ⟨n, hn⟩ : ∃ n, ws.length = n := ⟨_, rfl⟩
      rw [hn] at HW HAT hc1 hc3 ⊢
      have HN := Lib.hid hn
      clear hat hn
      go_wp2_with fail
      go_loopg [6, 7, 8] n (fun gg s6 _ _ wr => ∃ k : Nat, k ≤ n ∧ gg = n - k ∧ s6 = .int .i64 k ∧ Hid (anyB l (ws.take k) = false) ∧ Below w1.heap.size w1 wr)
      case atStart => exact ⟨0, Nat.zero_le _, by omega, rfl, rfl, HK3.out⟩
      case round =>
        obtain ⟨k, hk, hg, rfl, HLO, hbw⟩ := hrel
        have HG := Lib.hid hg
        have hkd := hbw.drew
        have HB := Lib.hid (HB1.out.trans (hbw.mono HB1.out.size))
        obtain ⟨wo, rfl⟩ : ∃ wo : World, wo = wr := ⟨_, rfl⟩
        by_cases hlt : k < n
        · have hltz : (k : Int) < (n : Int) := by omega
          have hk0 : (0 : Int) ≤ (k : Int) := by omega
          obtain ⟨y, hy⟩ := ex_at (xs := ws) (k := k) (by rw [HN.out]; exact hlt)
          obtain ⟨b, off, hA, hbl, hcell⟩ := HAT.out (by omega)
          subst hA
          have HS : Hid (∀ W, Below w1.heap.size w1 W → W.cell? ⟨P, 0, none⟩ = some (.int .i64 f) ∧ W.cell? ⟨P, 1, none⟩ = some (.int .u32 m) ∧ W.cell? ⟨P, 2, none⟩ = some v ∧ W.cell? ⟨b, off + k * 2, none⟩ = some (.int .i64 y.1)) := Lib.hid (fun W hk => by
            obtain ⟨e0, e1, e2⟩ := three_heads (keep_block HBOX.out hk)
            exact ⟨e0, e1, e2, ((hcell k y hy).keep (HB1.out.trans (hk.mono HB1.out.size)) hbl).1⟩)
          have HY := Lib.hid hy
          have HFY := Lib.hid (fun W (hk : Below w1.heap.size w1 W) => HFI.out y.1 W (HH.out.keep (HB1.out.trans (hk.mono HB1.out.size))))
          obtain ⟨o, ho⟩ : ∃ o, findU l y.1 = o := ⟨_, rfl⟩
          rw [ho] at HFY
          have HO := Lib.hid ho
          obtain ⟨x, hx⟩ : ∃ x, o.getD zeroPl = x := ⟨_, rfl⟩
          obtain ⟨q, hq⟩ : ∃ q, o.isSome = q := ⟨_, rfl⟩
          rw [hx, hq] at HFY
          have HQ := Lib.hid hq
          clear hbw hg hcell hy ho hx hq
          cases q with
          | false =>
            have HLON : Hid (anyB l (ws.take (k + 1)) = false) := Lib.hid (by rw [anyB_take HY.out, HLO, HO.out, HQ.out]; rfl)
            go_wp2_with fail
            as_aux_lemma =>
              refine wp_region_held_drew (S := fun w' => w'.cell? ⟨P, 0, none⟩ = some (.int .i64 f) ∧ w'.cell? ⟨P, 1, none⟩ = some (.int .u32 m) ∧ w'.cell? ⟨P, 2, none⟩ = some (v) ∧ w'.cell? ⟨b, off + k * 2, none⟩ = some (.int .i64 y.1)) (by kernel_rfl) ?_ (fun hHeld => ?_)
              · exact HS.out _ hkd
              refine wpAnyH_take (i := 0) (oi := ⟨some 26, _, _, _, _, _⟩) (v := ?_) rfl (by kernel_rfl) (by kernel_rfl) (by kernel_rfl) (fun _ _ _ h => h) (Or.inl ⟨by kernel_rfl, ?_⟩) (by assumption) ?_
              rotate_left
              · (intro w hSw; (try dsimp only at hSw); go_simp; try with_reducible rfl)
              (try simp only [Act.put, List.setIfInBounds_toArray, List.set_cons_zero, List.set_cons_succ])
              refine wpAnyH_take (i := 1) (oi := ⟨some 27, _, _, _, _, _⟩) (v := ?_) rfl (by kernel_rfl) (by kernel_rfl) (by kernel_rfl) (fun _ _ _ h => h) (Or.inl ⟨by kernel_rfl, ?_⟩) (by assumption) ?_
              rotate_left
              · (intro w hSw; (try dsimp only at hSw); go_simp; try with_reducible rfl)
              (try simp only [Act.put, List.setIfInBounds_toArray, List.set_cons_zero, List.set_cons_succ])
              refine wpAnyH_take (i := 2) (oi := ⟨some 28, _, _, _, _, _⟩) (v := ?_) rfl (by kernel_rfl) (by kernel_rfl) (by kernel_rfl) (fun _ _ _ h => h) (Or.inl ⟨by kernel_rfl, ?_⟩) (by assumption) ?_
              rotate_left
              · (intro w hSw; (try dsimp only at hSw); go_simp; try with_reducible rfl)
              (try simp only [Act.put, List.setIfInBounds_toArray, List.set_cons_zero, List.set_cons_succ])
              refine wpAnyH_take (i := 3) (oi := ⟨some 29, _, _, _, _, _⟩) (v := ?_) rfl (by kernel_rfl) (by kernel_rfl) (by kernel_rfl) (fun _ _ _ h => h) (Or.inl ⟨by kernel_rfl, ?_⟩) (by assumption) ?_
              rotate_left
              · (intro w hSw; (try dsimp only at hSw); go_simp; try with_reducible rfl)
              (try simp only [Act.put, List.setIfInBounds_toArray, List.set_cons_zero, List.set_cons_succ])
              refine wpAnyH_take (i := 4) (oi := ⟨some 30, _, _, _, _, _⟩) (v := ?_) rfl (by kernel_rfl) (by kernel_rfl) (by kernel_rfl) (fun _ _ _ h => h) (Or.inl ⟨by kernel_rfl, ?_⟩) (by assumption) ?_
              rotate_left
              · (intro w hSw; (try dsimp only at hSw); go_simp; try with_reducible rfl)
              (try simp only [Act.put, List.setIfInBounds_toArray, List.set_cons_zero, List.set_cons_succ])
              refine wpAnyH_take (i := 5) (oi := ⟨some 31, _, _, _, _, _⟩) (v := ?_) rfl (by kernel_rfl) (by kernel_rfl) (by kernel_rfl) (fun _ _ _ h => h) (Or.inl ⟨by kernel_rfl, ?_⟩) (by assumption) ?_
              rotate_left
              · (intro w hSw; (try dsimp only at hSw); go_simp; try with_reducible rfl)
              (try simp only [Act.put, List.setIfInBounds_toArray, List.set_cons_zero, List.set_cons_succ])
              refine wpAnyH_ready (rs := [6, 10]) (by kernel_rfl) (by simp) ?_
              refine AllReadyH.cons (o := ⟨some 32, _, _, _, _, _⟩) rfl (fun K hK => ?_) (AllReadyH.cons (o := ⟨some 7, _, _, _, _, _⟩) rfl (fun K hK => ?_) AllReadyH.nil)
              · rw [if_pos (by kernel_rfl)]
                go_simp
                go_at_call 14; refine (HFY.out _ hkd).mono ?_; rintro e wx1 ⟨vq, rfl, hps, hbx1⟩; unfold plA
                obtain ⟨Aq, dq, rfl⟩ := hps.form
                have hkx1 := hkd.trans (hbx1.mono hkd.size)
                refine hK.out _ _ ?_ (fun hHeld => ?_)
                · exact HS.out _ hkx1
                clear hK K
                (try simp only [Act.put, List.setIfInBounds_toArray, List.set_cons_zero, List.set_cons_succ])
                refine wpAnyH_take (i := 7) (oi := ⟨some 25, _, _, _, _, _⟩) (v := ?_) rfl (by kernel_rfl) (by kernel_rfl) (by kernel_rfl) (fun _ _ _ h => h) (Or.inl ⟨by kernel_rfl, ?_⟩) (by assumption) ?_
                rotate_left
                · (intro w hSw; (try dsimp only at hSw); go_simp; try with_reducible rfl)
                (try simp only [Act.put, List.setIfInBounds_toArray, List.set_cons_zero, List.set_cons_succ])
                refine wpAnyH_take (i := 8) (oi := ⟨some 33, _, _, _, _, _⟩) (v := ?_) rfl (by kernel_rfl) (by kernel_rfl) (by kernel_rfl) (fun _ _ _ h => h) (Or.inl ⟨by kernel_rfl, ?_⟩) (by assumption) ?_
                rotate_left
                · (intro w hSw; (try dsimp only at hSw); go_simp; try with_reducible rfl)
                (try simp only [Act.put, List.setIfInBounds_toArray, List.set_cons_zero, List.set_cons_succ])
                refine wpAnyH_take (i := 9) (oi := ⟨some 34, _, _, _, _, _⟩) (v := ?_) rfl (by kernel_rfl) (by kernel_rfl) (by kernel_rfl) (fun _ _ _ h => h) (Or.inl ⟨by kernel_rfl, ?_⟩) (by assumption) ?_
                rotate_left
                · (intro w hSw; (try dsimp only at hSw); go_simp; try with_reducible rfl)
                (try simp only [Act.put, List.setIfInBounds_toArray, List.set_cons_zero, List.set_cons_succ])
                refine wpAnyH_ready (rs := [10]) (by kernel_rfl) (by simp) ?_
                refine AllReadyH.cons (o := ⟨some 7, _, _, _, _, _⟩) rfl (fun K hK => ?_) AllReadyH.nil
                obtain ⟨wx2, Q, hw2, hQ2, hQl, hbx2, hq⟩ := box_any wx1 #[.int .i64 0, .int .i64 0, .int .i64 0, .slice none 0 0] 43
                have hkx2 := hkx1.trans (hbx2.mono hkx1.size)
                have hQw : w1.heap.size ≤ Q := by have := hkx1.size; omega
                have hps := hps.keep hbx2
                rw [if_pos (by kernel_rfl)]
                go_simp
                refine hK.out _ _ ?_ (fun hHeld => ?_)
                · exact HS.out _ hkx2
                clear hK K
                (try simp only [Act.put, List.setIfInBounds_toArray, List.set_cons_zero, List.set_cons_succ])
                clear hw2 hQ2
                refine wpAnyH_ready (rs := [11]) (by kernel_rfl) (by simp) ?_
                refine AllReadyH.cons (o := ⟨none, _, _, _, _, _⟩) rfl (fun K hK => ?_) AllReadyH.nil
                refine step_store_row16 rfl _ _ _ rfl Q #[.int .i64 x.u, .int .i64 x.s, .int .i64 x.c, .slice Aq x.ps.length dq] (by simp [Act.eval, Act.put]) (by simp [Act.eval, Act.put]) 43 _ hq (Tryz.sizePl _ _ _ _) rfl (one4 _ _ _ _ _ _) ?_
                have hkz := below_row hkx2 hQw #[.int .i64 x.u, .int .i64 x.s, .int .i64 x.c, .slice Aq x.ps.length dq]
                refine hK.out _ _ ?_ (fun hHeld => ?_)
                · exact HS.out _ hkz
                clear hK K
                (try simp only [Act.put, List.setIfInBounds_toArray, List.set_cons_zero, List.set_cons_succ])
                refine wpAnyH_take (i := 12) (oi := ⟨some 8, _, _, _, _, _⟩) (v := ?_) rfl (by kernel_rfl) (by kernel_rfl) (by kernel_rfl) (fun _ _ _ h => h) (Or.inl ⟨by kernel_rfl, ?_⟩) (by assumption) ?_
                rotate_left
                · (intro w hSw; (try dsimp only at hSw); go_simp; try with_reducible rfl)
                (try simp only [Act.put, List.setIfInBounds_toArray, List.set_cons_zero, List.set_cons_succ])
                refine wpAnyH_done (by kernel_rfl) ?_ _
                have HKZ := Lib.hid hkz
                clear hHeld hkz hq hps
                go_wp2_with fail
                go_roundg (n - (k + 1))
                case measure => have := HG.out; omega
                case rel => exact ⟨k + 1, by omega, rfl, by go_num, HLON, HKZ.out⟩
              · obtain ⟨wx4, Q, hw4, hQ4, hQl, hbx4, hq⟩ := box_any wo.drew #[.int .i64 0, .int .i64 0, .int .i64 0, .slice none 0 0] 43
                have hkx4 := hkd.trans (hbx4.mono hkd.size)
                have hQw : w1.heap.size ≤ Q := by have := hkd.size; omega
                rw [if_pos (by kernel_rfl)]
                go_simp
                refine hK.out _ _ ?_ (fun hHeld => ?_)
                · exact HS.out _ hkx4
                clear hK K
                (try simp only [Act.put, List.setIfInBounds_toArray, List.set_cons_zero, List.set_cons_succ])
                clear hw4 hQ4
                refine wpAnyH_ready (rs := [6]) (by kernel_rfl) (by simp) ?_
                refine AllReadyH.cons (o := ⟨some 32, _, _, _, _, _⟩) rfl (fun K hK => ?_) AllReadyH.nil
                rw [if_pos (by kernel_rfl)]
                go_simp
                go_at_call 14; refine (HFY.out _ hkx4).mono ?_; rintro e wx5 ⟨vq, rfl, hps, hbx5⟩; unfold plA
                obtain ⟨Aq, dq, rfl⟩ := hps.form
                have hkx5 := hkx4.trans (hbx5.mono hkx4.size)
                have hq := keep_block hq hbx5
                refine hK.out _ _ ?_ (fun hHeld => ?_)
                · exact HS.out _ hkx5
                clear hK K
                (try simp only [Act.put, List.setIfInBounds_toArray, List.set_cons_zero, List.set_cons_succ])
                refine wpAnyH_take (i := 7) (oi := ⟨some 25, _, _, _, _, _⟩) (v := ?_) rfl (by kernel_rfl) (by kernel_rfl) (by kernel_rfl) (fun _ _ _ h => h) (Or.inl ⟨by kernel_rfl, ?_⟩) (by assumption) ?_
                rotate_left
                · (intro w hSw; (try dsimp only at hSw); go_simp; try with_reducible rfl)
                (try simp only [Act.put, List.setIfInBounds_toArray, List.set_cons_zero, List.set_cons_succ])
                refine wpAnyH_take (i := 8) (oi := ⟨some 33, _, _, _, _, _⟩) (v := ?_) rfl (by kernel_rfl) (by kernel_rfl) (by kernel_rfl) (fun _ _ _ h => h) (Or.inl ⟨by kernel_rfl, ?_⟩) (by assumption) ?_
                rotate_left
                · (intro w hSw; (try dsimp only at hSw); go_simp; try with_reducible rfl)
                (try simp only [Act.put, List.setIfInBounds_toArray, List.set_cons_zero, List.set_cons_succ])
                refine wpAnyH_take (i := 9) (oi := ⟨some 34, _, _, _, _, _⟩) (v := ?_) rfl (by kernel_rfl) (by kernel_rfl) (by kernel_rfl) (fun _ _ _ h => h) (Or.inl ⟨by kernel_rfl, ?_⟩) (by assumption) ?_
                rotate_left
                · (intro w hSw; (try dsimp only at hSw); go_simp; try with_reducible rfl)
                (try simp only [Act.put, List.setIfInBounds_toArray, List.set_cons_zero, List.set_cons_succ])
                refine wpAnyH_ready (rs := [11]) (by kernel_rfl) (by simp) ?_
                refine AllReadyH.cons (o := ⟨none, _, _, _, _, _⟩) rfl (fun K hK => ?_) AllReadyH.nil
                refine step_store_row16 rfl _ _ _ rfl Q #[.int .i64 x.u, .int .i64 x.s, .int .i64 x.c, .slice Aq x.ps.length dq] (by simp [Act.eval, Act.put]) (by simp [Act.eval, Act.put]) 43 _ hq (Tryz.sizePl _ _ _ _) rfl (one4 _ _ _ _ _ _) ?_
                have hkz := below_row hkx5 hQw #[.int .i64 x.u, .int .i64 x.s, .int .i64 x.c, .slice Aq x.ps.length dq]
                refine hK.out _ _ ?_ (fun hHeld => ?_)
                · exact HS.out _ hkz
                clear hK K
                (try simp only [Act.put, List.setIfInBounds_toArray, List.set_cons_zero, List.set_cons_succ])
                refine wpAnyH_take (i := 12) (oi := ⟨some 8, _, _, _, _, _⟩) (v := ?_) rfl (by kernel_rfl) (by kernel_rfl) (by kernel_rfl) (fun _ _ _ h => h) (Or.inl ⟨by kernel_rfl, ?_⟩) (by assumption) ?_
                rotate_left
                · (intro w hSw; (try dsimp only at hSw); go_simp; try with_reducible rfl)
                (try simp only [Act.put, List.setIfInBounds_toArray, List.set_cons_zero, List.set_cons_succ])
                refine wpAnyH_done (by kernel_rfl) ?_ _
                have HKZ := Lib.hid hkz
                clear hHeld hkz hq hps
                go_wp2_with fail
                go_roundg (n - (k + 1))
                case measure => have := HG.out; omega
                case rel => exact ⟨k + 1, by omega, rfl, by go_num, HLON, HKZ.out⟩
          | true =>
            have HW11 : Hid (Why f m l ws 11) := Lib.hid (.inr (.inr (.inl ⟨HR.out, HE2.out, anyB_hit HY.out (by rw [HO.out]; exact HQ.out), rfl⟩)))
            go_wp2_with fail
            as_aux_lemma =>
              refine wp_region_held_drew (S := fun w' => w'.cell? ⟨P, 0, none⟩ = some (.int .i64 f) ∧ w'.cell? ⟨P, 1, none⟩ = some (.int .u32 m) ∧ w'.cell? ⟨P, 2, none⟩ = some (v) ∧ w'.cell? ⟨b, off + k * 2, none⟩ = some (.int .i64 y.1)) (by kernel_rfl) ?_ (fun hHeld => ?_)
              · exact HS.out _ hkd
              refine wpAnyH_take (i := 0) (oi := ⟨some 26, _, _, _, _, _⟩) (v := ?_) rfl (by kernel_rfl) (by kernel_rfl) (by kernel_rfl) (fun _ _ _ h => h) (Or.inl ⟨by kernel_rfl, ?_⟩) (by assumption) ?_
              rotate_left
              · (intro w hSw; (try dsimp only at hSw); go_simp; try with_reducible rfl)
              (try simp only [Act.put, List.setIfInBounds_toArray, List.set_cons_zero, List.set_cons_succ])
              refine wpAnyH_take (i := 1) (oi := ⟨some 27, _, _, _, _, _⟩) (v := ?_) rfl (by kernel_rfl) (by kernel_rfl) (by kernel_rfl) (fun _ _ _ h => h) (Or.inl ⟨by kernel_rfl, ?_⟩) (by assumption) ?_
              rotate_left
              · (intro w hSw; (try dsimp only at hSw); go_simp; try with_reducible rfl)
              (try simp only [Act.put, List.setIfInBounds_toArray, List.set_cons_zero, List.set_cons_succ])
              refine wpAnyH_take (i := 2) (oi := ⟨some 28, _, _, _, _, _⟩) (v := ?_) rfl (by kernel_rfl) (by kernel_rfl) (by kernel_rfl) (fun _ _ _ h => h) (Or.inl ⟨by kernel_rfl, ?_⟩) (by assumption) ?_
              rotate_left
              · (intro w hSw; (try dsimp only at hSw); go_simp; try with_reducible rfl)
              (try simp only [Act.put, List.setIfInBounds_toArray, List.set_cons_zero, List.set_cons_succ])
              refine wpAnyH_take (i := 3) (oi := ⟨some 29, _, _, _, _, _⟩) (v := ?_) rfl (by kernel_rfl) (by kernel_rfl) (by kernel_rfl) (fun _ _ _ h => h) (Or.inl ⟨by kernel_rfl, ?_⟩) (by assumption) ?_
              rotate_left
              · (intro w hSw; (try dsimp only at hSw); go_simp; try with_reducible rfl)
              (try simp only [Act.put, List.setIfInBounds_toArray, List.set_cons_zero, List.set_cons_succ])
              refine wpAnyH_take (i := 4) (oi := ⟨some 30, _, _, _, _, _⟩) (v := ?_) rfl (by kernel_rfl) (by kernel_rfl) (by kernel_rfl) (fun _ _ _ h => h) (Or.inl ⟨by kernel_rfl, ?_⟩) (by assumption) ?_
              rotate_left
              · (intro w hSw; (try dsimp only at hSw); go_simp; try with_reducible rfl)
              (try simp only [Act.put, List.setIfInBounds_toArray, List.set_cons_zero, List.set_cons_succ])
              refine wpAnyH_take (i := 5) (oi := ⟨some 31, _, _, _, _, _⟩) (v := ?_) rfl (by kernel_rfl) (by kernel_rfl) (by kernel_rfl) (fun _ _ _ h => h) (Or.inl ⟨by kernel_rfl, ?_⟩) (by assumption) ?_
              rotate_left
              · (intro w hSw; (try dsimp only at hSw); go_simp; try with_reducible rfl)
              (try simp only [Act.put, List.setIfInBounds_toArray, List.set_cons_zero, List.set_cons_succ])
              refine wpAnyH_ready (rs := [6, 10]) (by kernel_rfl) (by simp) ?_
              refine AllReadyH.cons (o := ⟨some 32, _, _, _, _, _⟩) rfl (fun K hK => ?_) (AllReadyH.cons (o := ⟨some 7, _, _, _, _, _⟩) rfl (fun K hK => ?_) AllReadyH.nil)
              · rw [if_pos (by kernel_rfl)]
                go_simp
                go_at_call 14; refine (HFY.out _ hkd).mono ?_; rintro e wx1 ⟨vq, rfl, hps, hbx1⟩; unfold plA
                obtain ⟨Aq, dq, rfl⟩ := hps.form
                have hkx1 := hkd.trans (hbx1.mono hkd.size)
                refine hK.out _ _ ?_ (fun hHeld => ?_)
                · exact HS.out _ hkx1
                clear hK K
                (try simp only [Act.put, List.setIfInBounds_toArray, List.set_cons_zero, List.set_cons_succ])
                refine wpAnyH_take (i := 7) (oi := ⟨some 25, _, _, _, _, _⟩) (v := ?_) rfl (by kernel_rfl) (by kernel_rfl) (by kernel_rfl) (fun _ _ _ h => h) (Or.inl ⟨by kernel_rfl, ?_⟩) (by assumption) ?_
                rotate_left
                · (intro w hSw; (try dsimp only at hSw); go_simp; try with_reducible rfl)
                (try simp only [Act.put, List.setIfInBounds_toArray, List.set_cons_zero, List.set_cons_succ])
                refine wpAnyH_take (i := 8) (oi := ⟨some 33, _, _, _, _, _⟩) (v := ?_) rfl (by kernel_rfl) (by kernel_rfl) (by kernel_rfl) (fun _ _ _ h => h) (Or.inl ⟨by kernel_rfl, ?_⟩) (by assumption) ?_
                rotate_left
                · (intro w hSw; (try dsimp only at hSw); go_simp; try with_reducible rfl)
                (try simp only [Act.put, List.setIfInBounds_toArray, List.set_cons_zero, List.set_cons_succ])
                refine wpAnyH_take (i := 9) (oi := ⟨some 34, _, _, _, _, _⟩) (v := ?_) rfl (by kernel_rfl) (by kernel_rfl) (by kernel_rfl) (fun _ _ _ h => h) (Or.inl ⟨by kernel_rfl, ?_⟩) (by assumption) ?_
                rotate_left
                · (intro w hSw; (try dsimp only at hSw); go_simp; try with_reducible rfl)
                (try simp only [Act.put, List.setIfInBounds_toArray, List.set_cons_zero, List.set_cons_succ])
                refine wpAnyH_ready (rs := [10]) (by kernel_rfl) (by simp) ?_
                refine AllReadyH.cons (o := ⟨some 7, _, _, _, _, _⟩) rfl (fun K hK => ?_) AllReadyH.nil
                obtain ⟨wx2, Q, hw2, hQ2, hQl, hbx2, hq⟩ := box_any wx1 #[.int .i64 0, .int .i64 0, .int .i64 0, .slice none 0 0] 43
                have hkx2 := hkx1.trans (hbx2.mono hkx1.size)
                have hQw : w1.heap.size ≤ Q := by have := hkx1.size; omega
                have hps := hps.keep hbx2
                rw [if_pos (by kernel_rfl)]
                go_simp
                refine hK.out _ _ ?_ (fun hHeld => ?_)
                · exact HS.out _ hkx2
                clear hK K
                (try simp only [Act.put, List.setIfInBounds_toArray, List.set_cons_zero, List.set_cons_succ])
                clear hw2 hQ2
                refine wpAnyH_ready (rs := [11]) (by kernel_rfl) (by simp) ?_
                refine AllReadyH.cons (o := ⟨none, _, _, _, _, _⟩) rfl (fun K hK => ?_) AllReadyH.nil
                refine step_store_row16 rfl _ _ _ rfl Q #[.int .i64 x.u, .int .i64 x.s, .int .i64 x.c, .slice Aq x.ps.length dq] (by simp [Act.eval, Act.put]) (by simp [Act.eval, Act.put]) 43 _ hq (Tryz.sizePl _ _ _ _) rfl (one4 _ _ _ _ _ _) ?_
                have hkz := below_row hkx2 hQw #[.int .i64 x.u, .int .i64 x.s, .int .i64 x.c, .slice Aq x.ps.length dq]
                refine hK.out _ _ ?_ (fun hHeld => ?_)
                · exact HS.out _ hkz
                clear hK K
                (try simp only [Act.put, List.setIfInBounds_toArray, List.set_cons_zero, List.set_cons_succ])
                refine wpAnyH_take (i := 12) (oi := ⟨some 8, _, _, _, _, _⟩) (v := ?_) rfl (by kernel_rfl) (by kernel_rfl) (by kernel_rfl) (fun _ _ _ h => h) (Or.inl ⟨by kernel_rfl, ?_⟩) (by assumption) ?_
                rotate_left
                · (intro w hSw; (try dsimp only at hSw); go_simp; try with_reducible rfl)
                (try simp only [Act.put, List.setIfInBounds_toArray, List.set_cons_zero, List.set_cons_succ])
                refine wpAnyH_done (by kernel_rfl) ?_ _
                have HKZ := Lib.hid hkz
                clear hHeld hkz hq hps
                go_wp2_with fail
                go_ret
                exact ⟨11, rfl, HW11.out, HB1.out.trans (HKZ.out.mono HB1.out.size)⟩
              · obtain ⟨wx4, Q, hw4, hQ4, hQl, hbx4, hq⟩ := box_any wo.drew #[.int .i64 0, .int .i64 0, .int .i64 0, .slice none 0 0] 43
                have hkx4 := hkd.trans (hbx4.mono hkd.size)
                have hQw : w1.heap.size ≤ Q := by have := hkd.size; omega
                rw [if_pos (by kernel_rfl)]
                go_simp
                refine hK.out _ _ ?_ (fun hHeld => ?_)
                · exact HS.out _ hkx4
                clear hK K
                (try simp only [Act.put, List.setIfInBounds_toArray, List.set_cons_zero, List.set_cons_succ])
                clear hw4 hQ4
                refine wpAnyH_ready (rs := [6]) (by kernel_rfl) (by simp) ?_
                refine AllReadyH.cons (o := ⟨some 32, _, _, _, _, _⟩) rfl (fun K hK => ?_) AllReadyH.nil
                rw [if_pos (by kernel_rfl)]
                go_simp
                go_at_call 14; refine (HFY.out _ hkx4).mono ?_; rintro e wx5 ⟨vq, rfl, hps, hbx5⟩; unfold plA
                obtain ⟨Aq, dq, rfl⟩ := hps.form
                have hkx5 := hkx4.trans (hbx5.mono hkx4.size)
                have hq := keep_block hq hbx5
                refine hK.out _ _ ?_ (fun hHeld => ?_)
                · exact HS.out _ hkx5
                clear hK K
                (try simp only [Act.put, List.setIfInBounds_toArray, List.set_cons_zero, List.set_cons_succ])
                refine wpAnyH_take (i := 7) (oi := ⟨some 25, _, _, _, _, _⟩) (v := ?_) rfl (by kernel_rfl) (by kernel_rfl) (by kernel_rfl) (fun _ _ _ h => h) (Or.inl ⟨by kernel_rfl, ?_⟩) (by assumption) ?_
                rotate_left
                · (intro w hSw; (try dsimp only at hSw); go_simp; try with_reducible rfl)
                (try simp only [Act.put, List.setIfInBounds_toArray, List.set_cons_zero, List.set_cons_succ])
                refine wpAnyH_take (i := 8) (oi := ⟨some 33, _, _, _, _, _⟩) (v := ?_) rfl (by kernel_rfl) (by kernel_rfl) (by kernel_rfl) (fun _ _ _ h => h) (Or.inl ⟨by kernel_rfl, ?_⟩) (by assumption) ?_
                rotate_left
                · (intro w hSw; (try dsimp only at hSw); go_simp; try with_reducible rfl)
                (try simp only [Act.put, List.setIfInBounds_toArray, List.set_cons_zero, List.set_cons_succ])
                refine wpAnyH_take (i := 9) (oi := ⟨some 34, _, _, _, _, _⟩) (v := ?_) rfl (by kernel_rfl) (by kernel_rfl) (by kernel_rfl) (fun _ _ _ h => h) (Or.inl ⟨by kernel_rfl, ?_⟩) (by assumption) ?_
                rotate_left
                · (intro w hSw; (try dsimp only at hSw); go_simp; try with_reducible rfl)
                (try simp only [Act.put, List.setIfInBounds_toArray, List.set_cons_zero, List.set_cons_succ])
                refine wpAnyH_ready (rs := [11]) (by kernel_rfl) (by simp) ?_
                refine AllReadyH.cons (o := ⟨none, _, _, _, _, _⟩) rfl (fun K hK => ?_) AllReadyH.nil
                refine step_store_row16 rfl _ _ _ rfl Q #[.int .i64 x.u, .int .i64 x.s, .int .i64 x.c, .slice Aq x.ps.length dq] (by simp [Act.eval, Act.put]) (by simp [Act.eval, Act.put]) 43 _ hq (Tryz.sizePl _ _ _ _) rfl (one4 _ _ _ _ _ _) ?_
                have hkz := below_row hkx5 hQw #[.int .i64 x.u, .int .i64 x.s, .int .i64 x.c, .slice Aq x.ps.length dq]
                refine hK.out _ _ ?_ (fun hHeld => ?_)
                · exact HS.out _ hkz
                clear hK K
                (try simp only [Act.put, List.setIfInBounds_toArray, List.set_cons_zero, List.set_cons_succ])
                refine wpAnyH_take (i := 12) (oi := ⟨some 8, _, _, _, _, _⟩) (v := ?_) rfl (by kernel_rfl) (by kernel_rfl) (by kernel_rfl) (fun _ _ _ h => h) (Or.inl ⟨by kernel_rfl, ?_⟩) (by assumption) ?_
                rotate_left
                · (intro w hSw; (try dsimp only at hSw); go_simp; try with_reducible rfl)
                (try simp only [Act.put, List.setIfInBounds_toArray, List.set_cons_zero, List.set_cons_succ])
                refine wpAnyH_done (by kernel_rfl) ?_ _
                have HKZ := Lib.hid hkz
                clear hHeld hkz hq hps
                go_wp2_with fail
                go_ret
                exact ⟨11, rfl, HW11.out, HB1.out.trans (HKZ.out.mono HB1.out.size)⟩
        · have hltz : ¬ (k : Int) < (n : Int) := by omega
          have HW0 : Hid (Why f m l ws 0) := Lib.hid (.inr (.inr (.inr ⟨HR.out, HE2.out, by rw [List.take_of_length_le (by have := HN.out; omega)] at HLO; exact HLO, rfl⟩)))
          clear hbw hg
          go_wp2_with fail
          go_ret
          exact ⟨0, rfl, HW0.out, HB.out⟩
    · have HWE : Hid (Why f m l ws E2) := Lib.hid (.inr (.inl ⟨HR.out, by rw [HE2.out]; exact he, HE2.out.symm⟩))
      have hb0 : (E2 != 0) = true := by simpa using he
      clear he
      go_wp2_with fail
      go_ret
      exact ⟨E2, rfl, HWE.out, HB1.out.trans (HK3.out.mono HB1.out.size)⟩
  · have HRN := Lib.hid ((HRI.out _ (HH.out.keep HB1.out)).2 hr)
    have HW30 : Hid (Why f m l ws 30) := Lib.hid (.inl ⟨hr, rfl⟩)
    clear HRI hr
    go_enter Tryz.func10, Tryz.ntmps10
    go_wp2_with fail
    refine HRN.out.mono ?_
    rintro e w2 ⟨rfl, hb2⟩
    have HK2 := Lib.hid (HB1.out.trans (hb2.mono HB1.out.size))
    clear hb2
    go_wp2_with fail
    go_ret
    exact ⟨30, rfl, HW30.out, HK2.out⟩
end Go.Proofs.YtiadnpipbocecaaGreat
