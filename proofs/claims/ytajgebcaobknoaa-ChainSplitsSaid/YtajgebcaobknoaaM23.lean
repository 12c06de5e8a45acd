/-
  Rooms of the document: a row of sixteen numbers of the call's own.
  Conditions: the slice reads as places; the plan is right.
-/
import Derived.Test.YtajgebcaobknoaaM12
import Derived.Test.YtajgebcaobknoaaM05
import Derived.Test.YtajgebcaobknoaaM16
import Derived.Test.YtajgebcaobknoaaM22
import Derived.Test.YtajgebcaobknoaaM17
import Derived.Test.YtajgebcaobknoaaM04
import Derived.Test.YtajgebcaobknoaaM19
import Derived.Test.YtajgebcaobknoaaM03

/-
  Why wants are not placed, of program and document.
  Conditions: the slices read as places, as wants; the numbers are of their kinds.
-/
set_option linter.unusedVariables false
set_option linter.unusedSimpArgs false
namespace Go.Proofs.Ytajgebcaobknoaa
open Go.RowKit

/-- Why wants are not placed, as an answer. -/
def RetWhy (f : Int) (m : Nat) (l : List Pl) (ws : List Sp) (w : World) (e : Ending) (w' : World) : Prop := ∃ E : Int, e = .returned (.int .i64 E) ∧ Why f m l ws E ∧ Below w.heap.size w w'
theorem anyB_take {l : List Pl} {ws : List Sp} {k : Nat} {y : Sp} (h : ws[k]? = some y) : anyB l (ws.take (k + 1)) = (anyB l (ws.take k) || (findU l y.1).isSome) := by
  unfold anyB
  rw [List.take_add_one, h, Option.toList_some, List.any_append]
  simp
theorem anyB_hit {l : List Pl} {ws : List Sp} {k : Nat} {y : Sp} (h : ws[k]? = some y) (hf : (findU l y.1).isSome = true) : anyB l ws = true := List.any_eq_true.2 ⟨y, List.mem_of_getElem? h, hf⟩

set_option maxRecDepth 100000 in
set_option maxHeartbeats 8000000 in
theorem refWhy_any (f : Int) (m : Nat) (v : Value) (l : List Pl) (vw : Value) (ws : List Sp) (w : World) (h : PlsAt w v l) (hL : LightL l) (hw : SpansAt w vw ws) (hi : IntsS ws) (hm : m < 4294967296) :
    Calls Try.prog 30 #[planA f m v, vw] w (RetWhy f m l ws w) := by
  have mixed : Try.prog.follows .mixedOrders = true := by kernel_rfl
  have HRI := Lib.hid (fun w h => calls_iff (right_any f m v l w h hL hm))
  have HOC := Lib.hid (fun w h => refCheck_any f vw ws w h hi)
  have HFI := Lib.hid (fun u w h => refFind_any f m v l u w h (by have := hL.len; omega))
  have HH := Lib.hid h
  have HW := Lib.hid hw
  unfold planA at HRI HFI
  unfold RetFind at HFI
  obtain ⟨w1, P, hw1, hP, hPl, hb1, hbox⟩ := box_any w #[.int .i64 f, .int .u32 m, v] 25
  have HB1 := Lib.hid hb1
  have HBOX := Lib.hid hbox
  obtain ⟨r0, r1, r2⟩ := three_heads hbox
  clear h hL hw hi hb1 hbox
  unfold planA
  by_cases hr : Right f m l
  · have HRY := Lib.hid ((HRI.out _ (HH.out.keep HB1.out)).1 hr)
    have HR := Lib.hid hr
    obtain ⟨E2, hE2⟩ : ∃ E2, chkT f ws = E2 := ⟨_, rfl⟩
    rw [hE2] at HOC
    have HE2 := Lib.hid hE2
    clear HRI hr hE2
    go_enter Try.func30, Try.ntmps30
    go_wp2_with fail
    refine HRY.out.mono ?_
    rintro e w2 ⟨rfl, hb2⟩
    have HK2 := Lib.hid hb2
    clear hb2 r0 r1 r2 hw1 hP
    obtain ⟨r0, r1, r2⟩ := three_heads (keep_block HBOX.out HK2.out)
    go_wp2_with fail
    refine (HOC.out _ (HW.out.keep (HB1.out.trans (HK2.out.mono HB1.out.size)))).mono ?_
    rintro e w3 ⟨rfl, hb3⟩
    have HK3 := Lib.hid (HK2.out.trans (hb3.mono HK2.out.size))
    clear hb3 r0 r1 r2
    by_cases he : E2 = 0
    · subst he
      obtain ⟨A, c, rfl, hc1, hc3, hc2, hat⟩ := HW.out
      have HAT := Lib.hid hat
      obtain ⟨n, hn⟩ : ∃ n, ws.length = n := ⟨_, rfl⟩
      rw [hn] at HW HAT hc1 hc3 ⊢
      have HN := Lib.hid hn
      clear hat hn
      go_wp2_with fail
      go_loopg [6, 7, 8] n (fun gg s6 _ _ wr => ∃ k : Nat, k ≤ n ∧ gg = n - k ∧ s6 = .int .i64 k ∧ Hid (anyB l (ws.take k) = false) ∧ Below w1.heap.size w1 wr)
      case atStart => exact ⟨0, Nat.zero_le _, by omega, rfl, rfl, HK3.out⟩
      case round =>
        obtain ⟨k, hk, hg, rfl, HLO, hbw⟩ := hrel
        have HG := Lib.hid hg
        have hkd := hbw.drew
        have HB := Lib.hid (HB1.out.trans (hbw.mono HB1.out.size))
        obtain ⟨wo, rfl⟩ : ∃ wo : World, wo = wr := ⟨_, rfl⟩
        by_cases hlt : k < n
        · have hltz : (k : Int) < (n : Int) := by omega
          have hk0 : (0 : Int) ≤ (k : Int) := by omega
          obtain ⟨y, hy⟩ := ex_at (xs := ws) (k := k) (by rw [HN.out]; exact hlt)
          obtain ⟨b, off, hA, hbl, hcell⟩ := HAT.out (by omega)
          subst hA
          have HS : Hid (∀ W, Below w1.heap.size w1 W → W.cell? ⟨P, 0, none⟩ = some (.int .i64 f) ∧ W.cell? ⟨P, 1, none⟩ = some (.int .u32 m) ∧ W.cell? ⟨P, 2, none⟩ = some v ∧ W.cell? ⟨b, off + k * 2, none⟩ = some (.int .i64 y.1)) := Lib.hid (fun W hk => by
            obtain ⟨e0, e1, e2⟩ := three_heads (keep_block HBOX.out hk)
            exact ⟨e0, e1, e2, ((hcell k y hy).keep (HB1.out.trans (hk.mono HB1.out.size)) hbl).1⟩)
          have HY := Lib.hid hy
          have HFY := Lib.hid (fun W (hk : Below w1.heap.size w1 W) => HFI.out y.1 W (HH.out.keep (HB1.out.trans (hk.mono HB1.out.size))))
          obtain ⟨o, ho⟩ : ∃ o, findU l y.1 = o := ⟨_, rfl⟩
          rw [ho] at HFY
          have HO := Lib.hid ho
          obtain ⟨x, hx⟩ : ∃ x, o.getD zeroPl = x := ⟨_, rfl⟩
          obtain ⟨q, hq⟩ : ∃ q, o.isSome = q := ⟨_, rfl⟩
          rw [hx, hq] at HFY
          have HQ := Lib.hid hq
          clear hbw hg hcell hy ho hx hq
          cases q with
          | false =>
            have HLON : Hid (anyB l (ws.take (k + 1)) = false) := Lib.hid (by rw [anyB_take HY.out, HLO, HO.out, HQ.out]; rfl)
            go_wp2_with fail
            as_aux_lemma =>
              refine wp_region_held_drew (S := fun w' => w'.cell? ⟨P, 0, none⟩ = some (.int .i64 f) ∧ w'.cell? ⟨P, 1, none⟩ = some (.int .u32 m) ∧ w'.cell? ⟨P, 2, none⟩ = some (v) ∧ w'.cell? ⟨b, off + k * 2, none⟩ = some (.int .i64 y.1)) (by kernel_rfl) ?_ (fun hHeld => ?_)
              · exact HS.out _ hkd
              refine wpAnyH_take (i := 0) (oi := ⟨some 26, _, _, _, _, _⟩) (v := ?_) rfl (by kernel_rfl) (by kernel_rfl) (by kernel_rfl) (fun _ _ _ h => h) (Or.inl ⟨by kernel_rfl, ?_⟩) (by assumption) ?_
              rotate_left
              · (intro w hSw; (try dsimp only at hSw); go_simp; try with_reducible rfl)
              (try simp only [Act.put, List.setIfInBounds_toArray, List.set_cons_zero, List.set_cons_succ])
              refine wpAnyH_take (i := 1) (oi := ⟨some 27, _, _, _, _, _⟩) (v := ?_) rfl (by kernel_rfl) (by kernel_rfl) (by kernel_rfl) (fun _ _ _ h => h) (Or.inl ⟨by kernel_rfl, ?_⟩) (by assumption) ?_
              rotate_left
              · (intro w hSw; (try dsimp only at hSw); go_simp; try with_reducible rfl)
              (try simp only [Act.put, List.setIfInBounds_toArray, List.set_cons_zero, List.set_cons_succ])
              refine wpAnyH_take (i := 2) (oi := ⟨some 28, _, _, _, _, _⟩) (v := ?_) rfl (by kernel_rfl) (by kernel_rfl) (by kernel_rfl) (fun _ _ _ h => h) (Or.inl ⟨by kernel_rfl, ?_⟩) (by assumption) ?_
              rotate_left
              · (intro w hSw; (try dsimp only at hSw); go_simp; try with_reducible rfl)
              (try simp only [Act.put, List.setIfInBounds_toArray, List.set_cons_zero, List.set_cons_succ])
              refine wpAnyH_take (i := 3) (oi := ⟨some 29, _, _, _, _, _⟩) (v := ?_) rfl (by kernel_rfl) (by kernel_rfl) (by kernel_rfl) (fun _ _ _ h => h) (Or.inl ⟨by kernel_rfl, ?_⟩) (by assumption) ?_
              rotate_left
              · (intro w hSw; (try dsimp only at hSw); go_simp; try with_reducible rfl)
              (try simp only [Act.put, List.setIfInBounds_toArray, List.set_cons_zero, List.set_cons_succ])
              refine wpAnyH_take (i := 4) (oi := ⟨some 30, _, _, _, _, _⟩) (v := ?_) rfl (by kernel_rfl) (by kernel_rfl) (by kernel_rfl) (fun _ _ _ h => h) (Or.inl ⟨by kernel_rfl, ?_⟩) (by assumption) ?_
              rotate_left
              · (intro w hSw; (try dsimp only at hSw); go_simp; try with_reducible rfl)
              (try simp only [Act.put, List.setIfInBounds_toArray, List.set_cons_zero, List.set_cons_succ])
              refine wpAnyH_take (i := 5) (oi := ⟨some 31, _, _, _, _, _⟩) (v := ?_) rfl (by kernel_rfl) (by kernel_rfl) (by kernel_rfl) (fun _ _ _ h => h) (Or.inl ⟨by kernel_rfl, ?_⟩) (by assumption) ?_
              rotate_left
              · (intro w hSw; (try dsimp only at hSw); go_simp; try with_reducible rfl)
              (try simp only [Act.put, List.setIfInBounds_toArray, List.set_cons_zero, List.set_cons_succ])
              refine wpAnyH_ready (rs := [6, 10]) (by kernel_rfl) (by simp) ?_
              refine AllReadyH.cons (o := ⟨some 32, _, _, _, _, _⟩) rfl (fun K hK => ?_) (AllReadyH.cons (o := ⟨some 7, _, _, _, _, _⟩) rfl (fun K hK => ?_) AllReadyH.nil)
              · rw [if_pos (by kernel_rfl)]
                go_simp
                go_at_call 16; refine (HFY.out _ hkd).mono ?_; rintro e wx1 ⟨vq, rfl, hps, hbx1⟩; unfold plA
                obtain ⟨Aq, dq, rfl⟩ := hps.form
                have hkx1 := hkd.trans (hbx1.mono hkd.size)
                refine hK.out _ _ ?_ (fun hHeld => ?_)
                · exact HS.out _ hkx1
                clear hK K
                (try simp only [Act.put, List.setIfInBounds_toArray, List.set_cons_zero, List.set_cons_succ])
                refine wpAnyH_take (i := 7) (oi := ⟨some 25, _, _, _, _, _⟩) (v := ?_) rfl (by kernel_rfl) (by kernel_rfl) (by kernel_rfl) (fun _ _ _ h => h) (Or.inl ⟨by kernel_rfl, ?_⟩) (by assumption) ?_
                rotate_left
                · (intro w hSw; (try dsimp only at hSw); go_simp; try with_reducible rfl)
                (try simp only [Act.put, List.setIfInBounds_toArray, List.set_cons_zero, List.set_cons_succ])
                refine wpAnyH_take (i := 8) (oi := ⟨some 33, _, _, _, _, _⟩) (v := ?_) rfl (by kernel_rfl) (by kernel_rfl) (by kernel_rfl) (fun _ _ _ h => h) (Or.inl ⟨by kernel_rfl, ?_⟩) (by assumption) ?_
                rotate_left
                · (intro w hSw; (try dsimp only at hSw); go_simp; try with_reducible rfl)
                (try simp only [Act.put, List.setIfInBounds_toArray, List.set_cons_zero, List.set_cons_succ])
                refine wpAnyH_take (i := 9) (oi := ⟨some 34, _, _, _, _, _⟩) (v := ?_) rfl (by kernel_rfl) (by kernel_rfl) (by kernel_rfl) (fun _ _ _ h => h) (Or.inl ⟨by kernel_rfl, ?_⟩) (by assumption) ?_
                rotate_left
                · (intro w hSw; (try dsimp only at hSw); go_simp; try with_reducible rfl)
                (try simp only [Act.put, List.setIfInBounds_toArray, List.set_cons_zero, List.set_cons_succ])
                refine wpAnyH_ready (rs := [10]) (by kernel_rfl) (by simp) ?_
                refine AllReadyH.cons (o := ⟨some 7, _, _, _, _, _⟩) rfl (fun K hK => ?_) AllReadyH.nil
                obtain ⟨wx2, Q, hw2, hQ2, hQl, hbx2, hq⟩ := box_any wx1 #[.int .i64 0, .int .i64 0, .int .i64 0, .slice none 0 0] 41
                have hkx2 := hkx1.trans (hbx2.mono hkx1.size)
                have hQw : w1.heap.size ≤ Q := by have := hkx1.size; omega
                have hps := hps.keep hbx2
                rw [if_pos (by kernel_rfl)]
                go_simp
                refine hK.out _ _ ?_ (fun hHeld => ?_)
                · exact HS.out _ hkx2
                clear hK K
                (try simp only [Act.put, List.setIfInBounds_toArray, List.set_cons_zero, List.set_cons_succ])
                clear hw2 hQ2
                refine wpAnyH_ready (rs := [11]) (by kernel_rfl) (by simp) ?_
                refine AllReadyH.cons (o := ⟨none, _, _, _, _, _⟩) rfl (fun K hK => ?_) AllReadyH.nil
                refine step_store_row16 rfl _ _ _ rfl Q #[.int .i64 x.u, .int .i64 x.s, .int .i64 x.c, .slice Aq x.ps.length dq] (by simp [Act.eval, Act.put]) (by simp [Act.eval, Act.put]) 41 _ hq (Try.sizePl _ _ _ _) rfl (one4 _ _ _ _ _ _) ?_
                have hkz := below_row hkx2 hQw #[.int .i64 x.u, .int .i64 x.s, .int .i64 x.c, .slice Aq x.ps.length dq]
                refine hK.out _ _ ?_ (fun hHeld => ?_)
                · exact HS.out _ hkz
                clear hK K
                (try simp only [Act.put, List.setIfInBounds_toArray, List.set_cons_zero, List.set_cons_succ])
                refine wpAnyH_take (i := 12) (oi := ⟨some 8, _, _, _, _, _⟩) (v := ?_) rfl (by kernel_rfl) (by kernel_rfl) (by kernel_rfl) (fun _ _ _ h => h) (Or.inl ⟨by kernel_rfl, ?_⟩) (by assumption) ?_
                rotate_left
                · (intro w hSw; (try dsimp only at hSw); go_simp; try with_reducible rfl)
                (try simp only [Act.put, List.setIfInBounds_toArray, List.set_cons_zero, List.set_cons_succ])
                refine wpAnyH_done (by kernel_rfl) ?_ _
                have HKZ := Lib.hid hkz
                clear hHeld hkz hq hps
                go_wp2_with fail
                go_roundg (n - (k + 1))
                case measure => have := HG.out; omega
                case rel => exact ⟨k + 1, by omega, rfl, by go_num, HLON, HKZ.out⟩
              · obtain ⟨wx4, Q, hw4, hQ4, hQl, hbx4, hq⟩ := box_any wo.drew #[.int .i64 0, .int .i64 0, .int .i64 0, .slice none 0 0] 41
                have hkx4 := hkd.trans (hbx4.mono hkd.size)
                have hQw : w1.heap.size ≤ Q := by have := hkd.size; omega
                rw [if_pos (by kernel_rfl)]
                go_simp
                refine hK.out _ _ ?_ (fun hHeld => ?_)
                · exact HS.out _ hkx4
                clear hK K
                (try simp only [Act.put, List.setIfInBounds_toArray, List.set_cons_zero, List.set_cons_succ])
                clear hw4 hQ4
                refine wpAnyH_ready (rs := [6]) (by kernel_rfl) (by simp) ?_
                refine AllReadyH.cons (o := ⟨some 32, _, _, _, _, _⟩) rfl (fun K hK => ?_) AllReadyH.nil
                rw [if_pos (by kernel_rfl)]
                go_simp
                go_at_call 16; refine (HFY.out _ hkx4).mono ?_; rintro e wx5 ⟨vq, rfl, hps, hbx5⟩; unfold plA
                obtain ⟨Aq, dq, rfl⟩ := hps.form
                have hkx5 := hkx4.trans (hbx5.mono hkx4.size)
                have hq := keep_block hq hbx5
                refine hK.out _ _ ?_ (fun hHeld => ?_)
                · exact HS.out _ hkx5
                clear hK K
                (try simp only [Act.put, List.setIfInBounds_toArray, List.set_cons_zero, List.set_cons_succ])
                refine wpAnyH_take (i := 7) (oi := ⟨some 25, _, _, _, _, _⟩) (v := ?_) rfl (by kernel_rfl) (by kernel_rfl) (by kernel_rfl) (fun _ _ _ h => h) (Or.inl ⟨by kernel_rfl, ?_⟩) (by assumption) ?_
                rotate_left
                · (intro w hSw; (try dsimp only at hSw); go_simp; try with_reducible rfl)
                (try simp only [Act.put, List.setIfInBounds_toArray, List.set_cons_zero, List.set_cons_succ])
                refine wpAnyH_take (i := 8) (oi := ⟨some 33, _, _, _, _, _⟩) (v := ?_) rfl (by kernel_rfl) (by kernel_rfl) (by kernel_rfl) (fun _ _ _ h => h) (Or.inl ⟨by kernel_rfl, ?_⟩) (by assumption) ?_
                rotate_left
                · (intro w hSw; (try dsimp only at hSw); go_simp; try with_reducible rfl)
                (try simp only [Act.put, List.setIfInBounds_toArray, List.set_cons_zero, List.set_cons_succ])
                refine wpAnyH_take (i := 9) (oi := ⟨some 34, _, _, _, _, _⟩) (v := ?_) rfl (by kernel_rfl) (by kernel_rfl) (by kernel_rfl) (fun _ _ _ h => h) (Or.inl ⟨by kernel_rfl, ?_⟩) (by assumption) ?_
                rotate_left
                · (intro w hSw; (try dsimp only at hSw); go_simp; try with_reducible rfl)
                (try simp only [Act.put, List.setIfInBounds_toArray, List.set_cons_zero, List.set_cons_succ])
                refine wpAnyH_ready (rs := [11]) (by kernel_rfl) (by simp) ?_
                refine AllReadyH.cons (o := ⟨none, _, _, _, _, _⟩) rfl (fun K hK => ?_) AllReadyH.nil
                refine step_store_row16 rfl _ _ _ rfl Q #[.int .i64 x.u, .int .i64 x.s, .int .i64 x.c, .slice Aq x.ps.length dq] (by simp [Act.eval, Act.put]) (by simp [Act.eval, Act.put]) 41 _ hq (Try.sizePl _ _ _ _) rfl (one4 _ _ _ _ _ _) ?_
                have hkz := below_row hkx5 hQw #[.int .i64 x.u, .int .i64 x.s, .int .i64 x.c, .slice Aq x.ps.length dq]
                refine hK.out _ _ ?_ (fun hHeld => ?_)
                · exact HS.out _ hkz
                clear hK K
                (try simp only [Act.put, List.setIfInBounds_toArray, List.set_cons_zero, List.set_cons_succ])
                refine wpAnyH_take (i := 12) (oi := ⟨some 8, _, _, _, _, _⟩) (v := ?_) rfl (by kernel_rfl) (by kernel_rfl) (by kernel_rfl) (fun _ _ _ h => h) (Or.inl ⟨by kernel_rfl, ?_⟩) (by assumption) ?_
                rotate_left
                · (intro w hSw; (try dsimp only at hSw); go_simp; try with_reducible rfl)
                (try simp only [Act.put, List.setIfInBounds_toArray, List.set_cons_zero, List.set_cons_succ])
                refine wpAnyH_done (by kernel_rfl) ?_ _
                have HKZ := Lib.hid hkz
                clear hHeld hkz hq hps
                go_wp2_with fail
                go_roundg (n - (k + 1))
                case measure => have := HG.out; omega
                case rel => exact ⟨k + 1, by omega, rfl, by go_num, HLON, HKZ.out⟩
          | true =>
            have HW11 : Hid (Why f m l ws 11) := Lib.hid (.inr (.inr (.inl ⟨HR.out, HE2.out, anyB_hit HY.out (by rw [HO.out]; exact HQ.out), rfl⟩)))
            go_wp2_with fail
            as_aux_lemma =>
              refine wp_region_held_drew (S := fun w' => w'.cell? ⟨P, 0, none⟩ = some (.int .i64 f) ∧ w'.cell? ⟨P, 1, none⟩ = some (.int .u32 m) ∧ w'.cell? ⟨P, 2, none⟩ = some (v) ∧ w'.cell? ⟨b, off + k * 2, none⟩ = some (.int .i64 y.1)) (by kernel_rfl) ?_ (fun hHeld => ?_)
              · exact HS.out _ hkd
              refine wpAnyH_take (i := 0) (oi := ⟨some 26, _, _, _, _, _⟩) (v := ?_) rfl (by kernel_rfl) (by kernel_rfl) (by kernel_rfl) (fun _ _ _ h => h) (Or.inl ⟨by kernel_rfl, ?_⟩) (by assumption) ?_
              rotate_left
              · (intro w hSw; (try dsimp only at hSw); go_simp; try with_reducible rfl)
              (try simp only [Act.put, List.setIfInBounds_toArray, List.set_cons_zero, List.set_cons_succ])
              refine wpAnyH_take (i := 1) (oi := ⟨some 27, _, _, _, _, _⟩) (v := ?_) rfl (by kernel_rfl) (by kernel_rfl) (by kernel_rfl) (fun _ _ _ h => h) (Or.inl ⟨by kernel_rfl, ?_⟩) (by assumption) ?_
              rotate_left
              · (intro w hSw; (try dsimp only at hSw); go_simp; try with_reducible rfl)
              (try simp only [Act.put, List.setIfInBounds_toArray, List.set_cons_zero, List.set_cons_succ])
              refine wpAnyH_take (i := 2) (oi := ⟨some 28, _, _, _, _, _⟩) (v := ?_) rfl (by kernel_rfl) (by kernel_rfl) (by kernel_rfl) (fun _ _ _ h => h) (Or.inl ⟨by kernel_rfl, ?_⟩) (by assumption) ?_
              rotate_left
              · (intro w hSw; (try dsimp only at hSw); go_simp; try with_reducible rfl)
              (try simp only [Act.put, List.setIfInBounds_toArray, List.set_cons_zero, List.set_cons_succ])
              refine wpAnyH_take (i := 3) (oi := ⟨some 29, _, _, _, _, _⟩) (v := ?_) rfl (by kernel_rfl) (by kernel_rfl) (by kernel_rfl) (fun _ _ _ h => h) (Or.inl ⟨by kernel_rfl, ?_⟩) (by assumption) ?_
              rotate_left
              · (intro w hSw; (try dsimp only at hSw); go_simp; try with_reducible rfl)
              (try simp only [Act.put, List.setIfInBounds_toArray, List.set_cons_zero, List.set_cons_succ])
              refine wpAnyH_take (i := 4) (oi := ⟨some 30, _, _, _, _, _⟩) (v := ?_) rfl (by kernel_rfl) (by kernel_rfl) (by kernel_rfl) (fun _ _ _ h => h) (Or.inl ⟨by kernel_rfl, ?_⟩) (by assumption) ?_
              rotate_left
              · (intro w hSw; (try dsimp only at hSw); go_simp; try with_reducible rfl)
              (try simp only [Act.put, List.setIfInBounds_toArray, List.set_cons_zero, List.set_cons_succ])
              refine wpAnyH_take (i := 5) (oi := ⟨some 31, _, _, _, _, _⟩) (v := ?_) rfl (by kernel_rfl) (by kernel_rfl) (by kernel_rfl) (fun _ _ _ h => h) (Or.inl ⟨by kernel_rfl, ?_⟩) (by assumption) ?_
              rotate_left
              · (intro w hSw; (try dsimp only at hSw); go_simp; try with_reducible rfl)
              (try simp only [Act.put, List.setIfInBounds_toArray, List.set_cons_zero, List.set_cons_succ])
              refine wpAnyH_ready (rs := [6, 10]) (by kernel_rfl) (by simp) ?_
              refine AllReadyH.cons (o := ⟨some 32, _, _, _, _, _⟩) rfl (fun K hK => ?_) (AllReadyH.cons (o := ⟨some 7, _, _, _, _, _⟩) rfl (fun K hK => ?_) AllReadyH.nil)
              · rw [if_pos (by kernel_rfl)]
                go_simp
                go_at_call 16; refine (HFY.out _ hkd).mono ?_; rintro e wx1 ⟨vq, rfl, hps, hbx1⟩; unfold plA
                obtain ⟨Aq, dq, rfl⟩ := hps.form
                have hkx1 := hkd.trans (hbx1.mono hkd.size)
                refine hK.out _ _ ?_ (fun hHeld => ?_)
                · exact HS.out _ hkx1
                clear hK K
                (try simp only [Act.put, List.setIfInBounds_toArray, List.set_cons_zero, List.set_cons_succ])
                refine wpAnyH_take (i := 7) (oi := ⟨some 25, _, _, _, _, _⟩) (v := ?_) rfl (by kernel_rfl) (by kernel_rfl) (by kernel_rfl) (fun _ _ _ h => h) (Or.inl ⟨by kernel_rfl, ?_⟩) (by assumption) ?_
                rotate_left
                · (intro w hSw; (try dsimp only at hSw); go_simp; try with_reducible rfl)
                (try simp only [Act.put, List.setIfInBounds_toArray, List.set_cons_zero, List.set_cons_succ])
                refine wpAnyH_take (i := 8) (oi := ⟨some 33, _, _, _, _, _⟩) (v := ?_) rfl (by kernel_rfl) (by kernel_rfl) (by kernel_rfl) (fun _ _ _ h => h) (Or.inl ⟨by kernel_rfl, ?_⟩) (by assumption) ?_
                rotate_left
                · (intro w hSw; (try dsimp only at hSw); go_simp; try with_reducible rfl)
                (try simp only [Act.put, List.setIfInBounds_toArray, List.set_cons_zero, List.set_cons_succ])
                refine wpAnyH_take (i := 9) (oi := ⟨some 34, _, _, _, _, _⟩) (v := ?_) rfl (by kernel_rfl) (by kernel_rfl) (by kernel_rfl) (fun _ _ _ h => h) (Or.inl ⟨by kernel_rfl, ?_⟩) (by assumption) ?_
                rotate_left
                · (intro w hSw; (try dsimp only at hSw); go_simp; try with_reducible rfl)
                (try simp only [Act.put, List.setIfInBounds_toArray, List.set_cons_zero, List.set_cons_succ])
                refine wpAnyH_ready (rs := [10]) (by kernel_rfl) (by simp) ?_
                refine AllReadyH.cons (o := ⟨some 7, _, _, _, _, _⟩) rfl (fun K hK => ?_) AllReadyH.nil
                obtain ⟨wx2, Q, hw2, hQ2, hQl, hbx2, hq⟩ := box_any wx1 #[.int .i64 0, .int .i64 0, .int .i64 0, .slice none 0 0] 41
                have hkx2 := hkx1.trans (hbx2.mono hkx1.size)
                have hQw : w1.heap.size ≤ Q := by have := hkx1.size; omega
                have hps := hps.keep hbx2
                rw [if_pos (by kernel_rfl)]
                go_simp
                refine hK.out _ _ ?_ (fun hHeld => ?_)
                · exact HS.out _ hkx2
                clear hK K
                (try simp only [Act.put, List.setIfInBounds_toArray, List.set_cons_zero, List.set_cons_succ])
                clear hw2 hQ2
                refine wpAnyH_ready (rs := [11]) (by kernel_rfl) (by simp) ?_
                refine AllReadyH.cons (o := ⟨none, _, _, _, _, _⟩) rfl (fun K hK => ?_) AllReadyH.nil
                refine step_store_row16 rfl _ _ _ rfl Q #[.int .i64 x.u, .int .i64 x.s, .int .i64 x.c, .slice Aq x.ps.length dq] (by simp [Act.eval, Act.put]) (by simp [Act.eval, Act.put]) 41 _ hq (Try.sizePl _ _ _ _) rfl (one4 _ _ _ _ _ _) ?_
                have hkz := below_row hkx2 hQw #[.int .i64 x.u, .int .i64 x.s, .int .i64 x.c, .slice Aq x.ps.length dq]
                refine hK.out _ _ ?_ (fun hHeld => ?_)
                · exact HS.out _ hkz
                clear hK K
                (try simp only [Act.put, List.setIfInBounds_toArray, List.set_cons_zero, List.set_cons_succ])
                refine wpAnyH_take (i := 12) (oi := ⟨some 8, _, _, _, _, _⟩) (v := ?_) rfl (by kernel_rfl) (by kernel_rfl) (by kernel_rfl) (fun _ _ _ h => h) (Or.inl ⟨by kernel_rfl, ?_⟩) (by assumption) ?_
                rotate_left
                · (intro w hSw; (try dsimp only at hSw); go_simp; try with_reducible rfl)
                (try simp only [Act.put, List.setIfInBounds_toArray, List.set_cons_zero, List.set_cons_succ])
                refine wpAnyH_done (by kernel_rfl) ?_ _
                have HKZ := Lib.hid hkz
                clear hHeld hkz hq hps
                go_wp2_with fail
                go_ret
                exact ⟨11, rfl, HW11.out, HB1.out.trans (HKZ.out.mono HB1.out.size)⟩
              · obtain ⟨wx4, Q, hw4, hQ4, hQl, hbx4, hq⟩ := box_any wo.drew #[.int .i64 0, .int .i64 0, .int .i64 0, .slice none 0 0] 41
                have hkx4 := hkd.trans (hbx4.mono hkd.size)
                have hQw : w1.heap.size ≤ Q := by have := hkd.size; omega
                rw [if_pos (by kernel_rfl)]
                go_simp
                refine hK.out _ _ ?_ (fun hHeld => ?_)
                · exact HS.out _ hkx4
                clear hK K
                (try simp only [Act.put, List.setIfInBounds_toArray, List.set_cons_zero, List.set_cons_succ])
                clear hw4 hQ4
                refine wpAnyH_ready (rs := [6]) (by kernel_rfl) (by simp) ?_
                refine AllReadyH.cons (o := ⟨some 32, _, _, _, _, _⟩) rfl (fun K hK => ?_) AllReadyH.nil
                rw [if_pos (by kernel_rfl)]
                go_simp
                go_at_call 16; refine (HFY.out _ hkx4).mono ?_; rintro e wx5 ⟨vq, rfl, hps, hbx5⟩; unfold plA
                obtain ⟨Aq, dq, rfl⟩ := hps.form
                have hkx5 := hkx4.trans (hbx5.mono hkx4.size)
                have hq := keep_block hq hbx5
                refine hK.out _ _ ?_ (fun hHeld => ?_)
                · exact HS.out _ hkx5
                clear hK K
                (try simp only [Act.put, List.setIfInBounds_toArray, List.set_cons_zero, List.set_cons_succ])
                refine wpAnyH_take (i := 7) (oi := ⟨some 25, _, _, _, _, _⟩) (v := ?_) rfl (by kernel_rfl) (by kernel_rfl) (by kernel_rfl) (fun _ _ _ h => h) (Or.inl ⟨by kernel_rfl, ?_⟩) (by assumption) ?_
                rotate_left
                · (intro w hSw; (try dsimp only at hSw); go_simp; try with_reducible rfl)
                (try simp only [Act.put, List.setIfInBounds_toArray, List.set_cons_zero, List.set_cons_succ])
                refine wpAnyH_take (i := 8) (oi := ⟨some 33, _, _, _, _, _⟩) (v := ?_) rfl (by kernel_rfl) (by kernel_rfl) (by kernel_rfl) (fun _ _ _ h => h) (Or.inl ⟨by kernel_rfl, ?_⟩) (by assumption) ?_
                rotate_left
                · (intro w hSw; (try dsimp only at hSw); go_simp; try with_reducible rfl)
                (try simp only [Act.put, List.setIfInBounds_toArray, List.set_cons_zero, List.set_cons_succ])
                refine wpAnyH_take (i := 9) (oi := ⟨some 34, _, _, _, _, _⟩) (v := ?_) rfl (by kernel_rfl) (by kernel_rfl) (by kernel_rfl) (fun _ _ _ h => h) (Or.inl ⟨by kernel_rfl, ?_⟩) (by assumption) ?_
                rotate_left
                · (intro w hSw; (try dsimp only at hSw); go_simp; try with_reducible rfl)
                (try simp only [Act.put, List.setIfInBounds_toArray, List.set_cons_zero, List.set_cons_succ])
                refine wpAnyH_ready (rs := [11]) (by kernel_rfl) (by simp) ?_
                refine AllReadyH.cons (o := ⟨none, _, _, _, _, _⟩) rfl (fun K hK => ?_) AllReadyH.nil
                refine step_store_row16 rfl _ _ _ rfl Q #[.int .i64 x.u, .int .i64 x.s, .int .i64 x.c, .slice Aq x.ps.length dq] (by simp [Act.eval, Act.put]) (by simp [Act.eval, Act.put]) 41 _ hq (Try.sizePl _ _ _ _) rfl (one4 _ _ _ _ _ _) ?_
                have hkz := below_row hkx5 hQw #[.int .i64 x.u, .int .i64 x.s, .int .i64 x.c, .slice Aq x.ps.length dq]
                refine hK.out _ _ ?_ (fun hHeld => ?_)
                · exact HS.out _ hkz
                clear hK K
                (try simp only [Act.put, List.setIfInBounds_toArray, List.set_cons_zero, List.set_cons_succ])
                refine wpAnyH_take (i := 12) (oi := ⟨some 8, _, _, _, _, _⟩) (v := ?_) rfl (by kernel_rfl) (by kernel_rfl) (by kernel_rfl) (fun _ _ _ h => h) (Or.inl ⟨by kernel_rfl, ?_⟩) (by assumption) ?_
                rotate_left
                · (intro w hSw; (try dsimp only at hSw); go_simp; try with_reducible rfl)
                (try simp only [Act.put, List.setIfInBounds_toArray, List.set_cons_zero, List.set_cons_succ])
                refine wpAnyH_done (by kernel_rfl) ?_ _
                have HKZ := Lib.hid hkz
                clear hHeld hkz hq hps
                go_wp2_with fail
                go_ret
                exact ⟨11, rfl, HW11.out, HB1.out.trans (HKZ.out.mono HB1.out.size)⟩
        · have hltz : ¬ (k : Int) < (n : Int) := by omega
          have HW0 : Hid (Why f m l ws 0) := Lib.hid (.inr (.inr (.inr ⟨HR.out, HE2.out, by rw [List.take_of_length_le (by have := HN.out; omega)] at HLO; exact HLO, rfl⟩)))
          clear hbw hg
          go_wp2_with fail
          go_ret
          exact ⟨0, rfl, HW0.out, HB.out⟩
    · have HWE : Hid (Why f m l ws E2) := Lib.hid (.inr (.inl ⟨HR.out, by rw [HE2.out]; exact he, HE2.out.symm⟩))
      have hb0 : (E2 != 0) = true := by simpa using he
      clear he
      go_wp2_with fail
      go_ret
      exact ⟨E2, rfl, HWE.out, HB1.out.trans (HK3.out.mono HB1.out.size)⟩
  · have HRN := Lib.hid ((HRI.out _ (HH.out.keep HB1.out)).2 hr)
    have HW30 : Hid (Why f m l ws 30) := Lib.hid (.inl ⟨hr, rfl⟩)
    clear HRI hr
    go_enter Try.func30, Try.ntmps30
    go_wp2_with fail
    refine HRN.out.mono ?_
    rintro e w2 ⟨rfl, hb2⟩
    have HK2 := Lib.hid (HB1.out.trans (hb2.mono HB1.out.size))
    clear hb2
    go_wp2_with fail
    go_ret
    exact ⟨30, rfl, HW30.out, HK2.out⟩
end Go.Proofs.Ytajgebcaobknoaa

/-
  Room of the document.
  Conditions: the slice reads as places; the numbers are small.
-/
set_option linter.unusedVariables false
namespace Go.Proofs.Ytajgebcaobknoaa
open Go.RowKit Go.Sort

set_option maxRecDepth 100000 in
set_option maxHeartbeats 2000000 in
theorem refRoom_any (f : Int) (m : Nat) (v : Value) (l : List Pl) (c : Int) (w : World) (h : PlsAt w v l) (hL : LightL l) (hS : Shares l) (hm : m < 4294967296) (hf : 0 ≤ f) (hf2 : f ≤ 64) :
    Calls Try.prog 20 #[planA f m v, .int .i64 c] w (RetB (.int .i64 (roomN f m l c)) w) := by
  have HH := Lib.hid h
  have HC := Lib.hid (fun W => refHasC_any f m v c W hm)
  have HLO := Lib.hid (fun hc w h => refLoad_any f m v l c w h hL hS hc)
  have hlb := load_bound hL hS c
  unfold planA at HC HLO
  unfold roomN
  obtain ⟨w1, P, hw1, hP, hPl, hb1, hbox⟩ := box_any w #[.int .i64 f, .int .u32 m, v] 25
  have HB1 := Lib.hid hb1
  have HBOX := Lib.hid hbox
  obtain ⟨r0, r1, r2⟩ := three_heads hbox
  clear h hL hS hb1 hbox
  unfold planA
  cases hh : hasC m c with
  | false =>
    rw [hh] at HC
    rw [if_neg (by simp)]
    clear hh
    go_enter Try.func20, Try.ntmps20
    go_wp2_with fail
    refine (HC.out _).mono ?_
    rintro e w2 ⟨rfl, hb2⟩
    have HB2 := Lib.hid (HB1.out.trans (hb2.mono HB1.out.size))
    clear hb2
    go_wp2_with fail
    go_ret
    exact ⟨rfl, HB2.out⟩
  | true =>
    have hc := hasC_range hh
    rw [hh] at HC
    rw [if_pos rfl]
    obtain ⟨lb1, lb2⟩ := hlb
    have HLC := Lib.hid (HLO.out hc.1)
    generalize loadN l c = ld at *
    have hw64 : IntKind.i64.wrap (f - ld) = f - ld := IntWalk.i64_in _ (by omega)
    clear hh hc HLO
    go_enter Try.func20, Try.ntmps20
    go_wp2_with fail
    refine (HC.out _).mono ?_
    rintro e w2 ⟨rfl, hb2⟩
    have HB2 := Lib.hid (HB1.out.trans (hb2.mono HB1.out.size))
    have HBX2 := Lib.hid (keep_block HBOX.out hb2)
    obtain ⟨q0, q1, q2⟩ := three_heads HBX2.out
    clear hb2 r0 r1 r2 hw1
    go_wp2_with fail
    have hPl2 : P < w2.heap.size := heap_lt HBX2.out
    go_region_held3 (fun w' => w'.cell? ⟨P, 0, none⟩ = some (.int .i64 f) ∧ w'.cell? ⟨P, 1, none⟩ = some (.int .u32 m) ∧ w'.cell? ⟨P, 2, none⟩ = some v)
      (first | go_keep | exact ⟨(hb.cell (p := ⟨P, 0, none⟩) hPl2).trans q0, (hb.cell (p := ⟨P, 1, none⟩) hPl2).trans q1, (hb.cell (p := ⟨P, 2, none⟩) hPl2).trans q2⟩)
      (first | (go_at_call 25; refine (HLC.out _ (HH.out.keep HB2.out.drew)).mono ?_; rintro e w' ⟨rfl, hb⟩))
    all_goals
      have HB5 := Lib.hid (HB2.out.drew.trans (hb.mono HB2.out.size))
      clear hb
      go_wp2
      go_ret
      exact ⟨rfl, HB5.out⟩
end Go.Proofs.Ytajgebcaobknoaa

/-
  Free of the document.
  Conditions: the slice reads as places; the numbers are small.
-/
set_option linter.unusedVariables false
namespace Go.Proofs.Ytajgebcaobknoaa
open Go.RowKit Go.Sort

set_option maxRecDepth 100000 in
set_option maxHeartbeats 2000000 in
theorem refFree_any (f : Int) (m : Nat) (v : Value) (l : List Pl) (w : World) (h : PlsAt w v l) (hL : LightL l) (hS : Shares l) (hm : m < 4294967296) (hf : 0 ≤ f) (hf2 : f ≤ 64) :
    Calls Try.prog 32 #[planA f m v] w (RetB (.int .i64 (freeT f m l 16)) w) := by
  have HH := Lib.hid h
  have HR := Lib.hid (fun c w h => refRoom_any f m v l c w h hL hS hm hf hf2)
  have HFB := Lib.hid (fun k => free_bound f m l hL hS hf hf2 k)
  have HRB := Lib.hid (fun c => room_bound f m l hL hS hf hf2 c)
  unfold planA at HR
  obtain ⟨w1, P, hw1, hP, hPl, hb1, hbox⟩ := box_any w #[.int .i64 f, .int .u32 m, v] 25
  have HB1 := Lib.hid hb1
  have HBOX := Lib.hid hbox
  obtain ⟨r0, r1, r2⟩ := three_heads hbox
  clear h hL hS hb1 hbox
  unfold planA
  go_enter Try.func32, Try.ntmps32
  go_wp2_with fail
  clear hw1 hP r0 r1 r2
  go_loopg [3, 4] 16 (fun gg s3 s4 wr => ∃ (k : Nat) (q : Int), k ≤ 16 ∧ gg = 16 - k ∧ s4 = .int .i64 k ∧ s3 = .int .i64 q ∧ q = freeT f m l k ∧ Below w1.heap.size w1 wr)
  case atStart => exact ⟨0, 0, Nat.zero_le _, by omega, rfl, rfl, rfl, Below.refl _ _⟩
  case round =>
    obtain ⟨k, q, hk, hg, rfl, rfl, hq, hbw⟩ := hrel
    have HQ := Lib.hid hq
    have HBW := Lib.hid hbw
    have HB := Lib.hid (HB1.out.trans (hbw.mono HB1.out.size))
    have HG := Lib.hid hg
    obtain ⟨r0, r1, r2⟩ := three_heads ((hbw.block P hPl).trans HBOX.out)
    have hqb := HFB.out k
    rw [← hq] at hqb
    obtain ⟨hq1, hq2⟩ := hqb
    have hk16 : k ≤ 16 := hk
    clear hbw hg hq
    by_cases hlt : k < 16
    · have HRC := Lib.hid (HR.out (k : Int) wr (HH.out.keep HB.out))
      have hrb := HRB.out (k : Int)
      have HS := Lib.hid (show freeT f m l (k + 1) = freeT f m l k + roomN f m l (k : Int) from rfl)
      rw [← HQ.out] at HS
      generalize roomN f m l (k : Int) = rm at *
      obtain ⟨hr1, hr2⟩ := hrb
      have k1 : -400000 ≤ q := by omega
      have k2 : q ≤ 200000 := by omega
      clear hq1 hq2
      go_wp2_with fail
      refine HRC.out.mono ?_
      rintro e w3 ⟨rfl, hb3⟩
      have HB3 := Lib.hid (HBW.out.trans (hb3.mono HBW.out.size))
      clear hb3
      go_wp2_with fail
      go_roundg (16 - (k + 1))
      case measure => have := HG.out; omega
      case rel => exact ⟨k + 1, q + rm, by omega, rfl, by go_num, rfl, HS.out.symm, HB3.out⟩
    · have hk16' : k = 16 := by omega
      subst hk16'
      have HE : Hid (q = freeT f m l 16) := HQ.out
      clear hq1 hq2
      go_wp2
      go_ret
      exact ⟨ret_int HE.out, HB.out⟩
end Go.Proofs.Ytajgebcaobknoaa

/-
  Why wants don't go along the chain, of the document.
  Conditions: the slices read as places, as wants; the numbers are of their kinds.
-/
set_option linter.unusedVariables false
set_option linter.unusedSimpArgs false
namespace Go.Proofs.Ytajgebcaobknoaa
open Go.RowKit

set_option maxRecDepth 100000 in
set_option maxHeartbeats 8000000 in
theorem refWhyC_any (f : Int) (m : Nat) (v : Value) (l : List Pl) (vw : Value) (ws : List Sp) (w : World) (h : PlsAt w v l) (hL : LightL l) (hw : SpansAt w vw ws) (hi : IntsS ws) (hm : m < 4294967296) :
    Calls Try.prog 13 #[planA f m v, vw] w (fun e w' => ∃ E : Int, e = .returned (.int .i64 E) ∧ Why19 f m l ws E ∧ Below w.heap.size w w') := by
  have HWY := Lib.hid (fun w h hw => refWhy_any f m v l vw ws w h hL hw hi hm)
  have HSP := Lib.hid (fun w h => refSplits_any f m v l w h (by have := hL.len; omega))
  have HFR := Lib.hid (fun (hr : Right f m l) w h => refFree_any f m v l w h hL (shares_of hr.place hr.f64) hm (by have := hr.f2; omega) hr.f64)
  have HTO := Lib.hid (fun w h => refTotal_any vw ws w h hi)
  have HH := Lib.hid h
  have HW := Lib.hid hw
  unfold planA at HWY HSP HFR
  obtain ⟨w1, P, hw1, hP, hPl, hb1, hbox⟩ := box_any w #[.int .i64 f, .int .u32 m, v] 25
  have HB1 := Lib.hid hb1
  have HBOX := Lib.hid hbox
  obtain ⟨r0, r1, r2⟩ := three_heads hbox
  clear h hL hw hi hm hb1 hbox
  unfold planA
  go_enter Try.func13, Try.ntmps13
  go_wp2_with fail
  refine (HWY.out _ (HH.out.keep HB1.out) (HW.out.keep HB1.out)).mono ?_
  rintro e w2 ⟨E, rfl, hwhy, hb2⟩
  have HB2 := Lib.hid (HB1.out.trans (hb2.mono HB1.out.size))
  have HBX2 := Lib.hid (keep_block HBOX.out hb2)
  have HWH := Lib.hid hwhy
  clear hb2 hwhy r0 r1 r2 hw1 hP
  by_cases he : E = 0
  · subst he
    have HG := Lib.hid HWH.out.zero
    obtain ⟨r0, r1, r2⟩ := three_heads HBX2.out
    go_wp2_with fail
    refine (HSP.out _ (HH.out.keep HB2.out)).mono ?_
    rintro e w6 ⟨rfl, hb6⟩
    have HB6 := Lib.hid (HB2.out.trans (hb6.mono HB2.out.size))
    have HBX6 := Lib.hid (keep_block HBX2.out hb6)
    obtain ⟨sp, hsp⟩ : ∃ sp, splitsN l = sp := ⟨_, rfl⟩
    have HSPL := Lib.hid hsp
    rw [hsp]
    clear hb6 r0 r1 r2 hsp
    by_cases h0 : sp = 0
    · subst h0
      obtain ⟨r0, r1, r2⟩ := three_heads HBX6.out
      have HTO6 := Lib.hid (HTO.out _ (HW.out.keep HB6.out))
      rw [tot_chk HG.out.chk] at HTO6
      have HTO7 : Hid (Calls Try.prog 31 #[vw] w6 (RetB (.tuple #[.int .i64 (sumS ws), .bool true]) w6)) := HTO6
      obtain ⟨t, ht⟩ : ∃ t, sumS ws = t := ⟨_, rfl⟩
      have HT := Lib.hid ht
      rw [ht] at HTO7
      clear ht HTO6
      go_wp2_with fail
      refine HTO7.out.mono ?_
      rintro e w7 ⟨rfl, hb7⟩
      have HB7 := Lib.hid (HB6.out.trans (hb7.mono HB6.out.size))
      have HBX7 := Lib.hid (keep_block HBX6.out hb7)
      clear hb7 r0 r1 r2
      obtain ⟨r0, r1, r2⟩ := three_heads HBX7.out
      go_wp2_with fail
      refine (HFR.out HG.out.right _ (HH.out.keep HB7.out)).mono ?_
      rintro e w8 ⟨rfl, hb8⟩
      have HB8 := Lib.hid (HB7.out.trans (hb8.mono HB7.out.size))
      obtain ⟨g, hg⟩ : ∃ g, freeT f m l 16 = g := ⟨_, rfl⟩
      have HGF := Lib.hid hg
      rw [hg]
      clear hb8 r0 r1 r2 hg
      by_cases hlt : g < t
      · have hd : decide (g < t) = true := decide_eq_true hlt
        have HW12 : Hid (Why19 f m l ws 12) := Lib.hid (.inr (.inr (.inl ⟨HG.out.why, HSPL.out, by rw [HGF.out, HT.out]; exact hlt, rfl⟩)))
        go_wp2_with fail
        go_ret
        exact ⟨12, rfl, HW12.out, HB8.out⟩
      · have hd : decide (g < t) = false := decide_eq_false hlt
        have HWZ : Hid (Why19 f m l ws 0) := Lib.hid (.inr (.inr (.inr ⟨⟨HG.out, HSPL.out, by rw [HGF.out, HT.out]; omega⟩, rfl⟩)))
        go_wp2_with fail
        go_ret
        exact ⟨0, rfl, HWZ.out, HB8.out⟩
    · have hd : decide ((0 : Int) < (sp : Int)) = true := decide_eq_true (by omega)
      have HW15 : Hid (Why19 f m l ws 15) := Lib.hid (.inr (.inl ⟨HG.out.why, by rw [HSPL.out]; exact h0, rfl⟩))
      go_wp2_with fail
      go_ret
      exact ⟨15, rfl, HW15.out, HB6.out⟩
  · have hb0 : (E != 0) = true := by simpa using he
    have HE := Lib.hid he
    clear he
    go_wp2_with fail
    go_ret
    exact ⟨E, rfl, .inl ⟨HE.out, HWH.out⟩, HB2.out⟩
end Go.Proofs.Ytajgebcaobknoaa

/-
  Rooms of the document: a row of sixteen numbers of the call's own.
  Conditions: the slice reads as places; the plan is right.
-/
set_option linter.unusedVariables false
set_option linter.unusedSimpArgs false
namespace Go.Proofs.Ytajgebcaobknoaa
open Go.RowKit

/-- Block g begins with sixteen numbers. -/
def RowC (W : World) (g : Nat) (r : Nat → Int) : Prop := ∃ cur, W.heap[g]? = some (.cells cur 3 (0, 0)) ∧ ∀ i, i < 16 → cur[i]? = some (.int .i64 (r i))
theorem RowC.cell {W : World} {g : Nat} {r : Nat → Int} (h : RowC W g r) {i : Nat} (hi : i < 16) : W.cell? ⟨g, i, none⟩ = some (.int .i64 (r i)) := by
  obtain ⟨cur, h1, h2⟩ := h
  rw [cell_of_row W g i _ _ _ h1, h2 i hi]
theorem RowC.frozen {W : World} {g : Nat} {r : Nat → Int} (h : RowC W g r) (j : Nat) : W.frozen? ⟨g, j, none⟩ = false := by
  obtain ⟨cur, h1, _⟩ := h
  simp [World.frozen?, h1]
theorem RowC.lt {W : World} {g : Nat} {r : Nat → Int} (h : RowC W g r) : g < W.heap.size := by
  obtain ⟨cur, h1, _⟩ := h
  exact heap_lt h1
theorem RowC.same {W W' : World} {g : Nat} {r : Nat → Int} (h : RowC W g r) (e : W'.heap[g]? = W.heap[g]?) : RowC W' g r := by
  obtain ⟨cur, h1, h2⟩ := h
  exact ⟨cur, e.trans h1, h2⟩
theorem RowC.set {W : World} {g : Nat} {r : Nat → Int} (h : RowC W g r) (j : Nat) (x : Int) : RowC (W.setCell ⟨g, j, none⟩ (.int .i64 x)) g fun i => if i = j then x else r i := by
  obtain ⟨cur, h1, h2⟩ := h
  refine ⟨_, heap_setCell_mem W g j _ _ _ _ h1, fun i hi => ?_⟩
  have h3 := h2 i hi
  have hlt : i < cur.size := (Array.getElem?_eq_some_iff.1 h3).1
  show _ = some (Value.int .i64 (if i = j then x else r i))
  by_cases e : i = j
  · subst e
    rw [if_pos rfl, Array.getElem?_setIfInBounds]
    simp [hlt]
  · rw [if_neg e, Array.getElem?_setIfInBounds_ne (fun h => e h.symm)]
    exact h3
theorem RowC.congr {W : World} {g : Nat} {r r' : Nat → Int} (h : RowC W g r) (e : ∀ i, i < 16 → r i = r' i) : RowC W g r' := by
  obtain ⟨cur, h1, h2⟩ := h
  exact ⟨cur, h1, fun i hi => by rw [h2 i hi, e i hi]⟩
/-- The rooms of the first k cores. -/
def rmL (f : Int) (m : Nat) (l : List Pl) (k : Nat) : List Int := (List.range k).map fun i : Nat => roomN f m l (i : Int)
theorem rmL_length (f : Int) (m : Nat) (l : List Pl) (k : Nat) : (rmL f m l k).length = k := by unfold rmL; rw [List.length_map, List.length_range]
theorem rmL_succ (f : Int) (m : Nat) (l : List Pl) (k : Nat) : rmL f m l (k + 1) = rmL f m l k ++ [roomN f m l (k : Int)] := by unfold rmL; rw [List.range_succ, List.map_append]; rfl
theorem rmL_get {f : Int} {m : Nat} {l : List Pl} {k i : Nat} (h : i < k) : (rmL f m l k)[i]? = some (roomN f m l (i : Int)) := by
  unfold rmL
  rw [List.getElem?_map, List.getElem?_range h]
  rfl
theorem rowC_of_own {W : World} {base : Nat} {v : Value} {f : Int} {m : Nat} {l : List Pl} (h : W.ownsRow base 3 1 v 16 ((rmL f m l 16).map (Value.int .i64))) : ∃ g cap, v = .slice (some ⟨g, 0, none⟩) 16 cap ∧ base ≤ g ∧ RowC W g fun i => roomN f m l (i : Int) := by
  obtain ⟨h1, h2⟩ := h
  rcases h2 with ⟨_, h0⟩ | ⟨g, cap, cur, rfl, hg, hh, hn, hc, hs, ht⟩
  · exact absurd h0 (by decide)
  · refine ⟨g, cap, rfl, hg, cur, hh, fun i hi => ?_⟩
    have e : (cur.toList.take (16 * 1))[i]? = some (.int .i64 (roomN f m l (i : Int))) := by
      rw [ht, List.getElem?_map, rmL_get hi]
      rfl
    rw [List.getElem?_take_of_lt (by omega)] at e
    simpa using e

set_option maxRecDepth 100000 in
set_option maxHeartbeats 4000000 in
theorem refRoomsC_any (f : Int) (m : Nat) (v : Value) (l : List Pl) (w : World) (h : PlsAt w v l) (hL : LightL l) (hr : Right f m l) :
    Calls Try.prog 11 #[planA f m v] w (fun e w' => ∃ v', e = .returned v' ∧ w'.ownsRow w.heap.size 3 1 v' 16 ((rmL f m l 16).map (Value.int .i64)) ∧ Below w.heap.size w w') := by
  obtain ⟨i0, hi, hz0, hz1, hz2⟩ := info_parts Try.infoInt
  have HRM := Lib.hid (fun c w h => refRoom_any f m v l c w h hL (shares_of hr.place hr.f64) (by have := hr.m16; omega) (by have := hr.f2; omega) hr.f64)
  have HH := Lib.hid h
  unfold planA at HRM
  obtain ⟨w1, P, hw1, hP, hPl, hb1, hbox⟩ := box_any w #[.int .i64 f, .int .u32 m, v] 25
  have HB1 := Lib.hid hb1
  have HBOX := Lib.hid hbox
  obtain ⟨r0, r1, r2⟩ := three_heads hbox
  clear h hL hr hb1 hbox
  unfold planA
  go_enter Try.func11, Try.ntmps11
  go_wp2_with fail
  clear hw1 hP r0 r1 r2
  have HB0 := Lib.hid (show Below w1.heap.size w1 (w1.alloc (Obj.cells #[] 3)) from (Below.refl _ _).alloc (Nat.le_refl _) _)
  have HO0 : Hid ((w1.alloc (Obj.cells #[] 3)).ownsRow w1.heap.size 3 1 (.slice (some ⟨w1.heap.size, 0, none⟩) 0 0) 0 []) :=
    ⟨rfl, .inr ⟨w1.heap.size, 0, #[], rfl, Nat.le_refl _, heap_alloc_new w1 _, Nat.le_refl _, Nat.zero_le _, rfl, rfl⟩⟩
  go_loopg [3, 4] 16 (fun g s i wr => ∃ k : Nat, k ≤ 16 ∧ g = 16 - k ∧ i = .int .i64 k ∧ Below w1.heap.size w1 wr ∧ wr.ownsRow w1.heap.size 3 1 s k ((rmL f m l k).map (Value.int .i64)))
  case atStart => exact ⟨0, Nat.zero_le _, rfl, rfl, HB0.out, HO0.out⟩
  case round =>
    obtain ⟨k, hk, hg, rfl, hbw, hown⟩ := hrel
    have HG := Lib.hid hg
    have HBW := Lib.hid hbw
    have HO := Lib.hid hown
    have hPl2 : P < wr.heap.size := Nat.lt_of_lt_of_le hPl hbw.size
    have HBX := Lib.hid ((hbw.block P hPl).trans HBOX.out)
    obtain ⟨r0, r1, r2⟩ := three_heads HBX.out
    have HB := Lib.hid (HB1.out.trans (hbw.mono HB1.out.size))
    clear hg hbw hown
    by_cases hlt : k < 16
    · obtain ⟨x, hx⟩ : ∃ x, roomN f m l (k : Int) = x := ⟨_, rfl⟩
      have HX := Lib.hid hx
      have HRC := Lib.hid (HRM.out (k : Int) wr (HH.out.keep HB.out))
      rw [hx] at HRC
      clear hx
      go_wp2_with fail
      refine HRC.out.mono ?_
      rintro e w3 ⟨rfl, hb⟩
      have HB2 := Lib.hid (HBW.out.trans (hb.mono HBW.out.size))
      have HO2 := Lib.hid (own_below5 HO.out hb)
      have hsz := HB2.out.size
      clear hb
      go_wp2_with (at_builtin; refine wpList_append_own _ rfl _ _ 29 rfl w1.heap.size 3 i0 (.int .i64 0) 1 8 Try.underlying29 hi hz0 hz1 hz2 rfl (by decide) _ _ _ rfl (HO2.out.alloc _) ⟨w3.heap.size, 0, none⟩ 1 1 [.int .i64 x] rfl rfl ?c1 ?c2 ?c3 ?c4 ?c5 ?_)
      case c1 =>
        intro j u hj
        rcases j with _ | j
        · simpa [Addr.add] using hj
        · simp at hj
      case c2 => intro u hu; simp at hu; subst hu; rfl
      case c3 => unfold maxLen; omega
      case c4 => omega
      case c5 => simp; omega
      intro v2 w2 hown2 hgrow _
      have HB3 := Lib.hid ((HB2.out.alloc hsz _).trans (below_grown4 hgrow (by simp; omega) (own_base4 HO2.out)))
      have HO3 := Lib.hid hown2
      clear hown2 hgrow hsz
      go_wp2
      go_roundg (16 - (k + 1))
      case measure => have := HG.out; omega
      case rel =>
        refine ⟨k + 1, by omega, rfl, by go_num, HB3.out, ?_⟩
        have e := HO3.out
        rw [rmL_succ, List.map_append, HX.out]
        exact e
    · have hk16 : k = 16 := by omega
      subst hk16
      have HBE := Lib.hid (HB1.out.trans (HBW.out.mono HB1.out.size))
      have HOE := Lib.hid (own_mono5 HO.out (show w.heap.size ≤ w1.heap.size from HB1.out.size))
      go_wp2
      go_ret
      exact ⟨_, rfl, HOE.out, HBE.out⟩
end Go.Proofs.Ytajgebcaobknoaa
