/-
  The law of one's own: PlanOwn.
  Conditions: the slice reads as places; the numbers are of their kinds.
-/
import Derived.Test.YtpblfonkcibagaaOwnMath
import Derived.Test.YtpblfonkcibagaaPut
import Derived.Test.YtpblfonkcibagaaAwake
import Derived.Test.YtpblfonkcibagaaLight
import Derived.Test.YtpblfonkcibagaaLawChecks
import Derived.Test.YtpblfonkcibagaaFindSoft
set_option linter.unusedVariables false
set_option linter.unusedSimpArgs false
namespace Go.Proofs.Ytpblfonkcibagaa
open Go.RowKit

theorem hsz16 {W w' : World} {E : Nat} (h : Below E W w') (_ : ∀ b, b < W.heap.size → b ≠ E → w'.heap[b]? = W.heap[b]?) : W.heap.size ≤ w'.heap.size := h.size
theorem PlsIn.ne {F : Nat → Prop} {W : World} {v : Value} {l : List Pl} (h : PlsIn F W v l) {B : Nat} (hB : W.heap.size ≤ B) : PlsIn (fun b => F b ∧ b ≠ B) W v l := h.mono fun b hb hF => ⟨hF, by omega⟩
theorem PcsIn.ne {F : Nat → Prop} {W : World} {v : Value} {ps : List Pc} (h : PcsIn F W v ps) {B : Nat} (hB : W.heap.size ≤ B) : PcsIn (fun b => F b ∧ b ≠ B) W v ps := h.mono fun b hb hF => ⟨hF, by omega⟩
set_option maxRecDepth 100000 in
set_option maxHeartbeats 16000000 in
theorem own_law (f : Int) (m : Nat) (v : Value) (l : List Pl) (u : Int) (w : World) (h : PlsAt w v l) (ho : ∀ x ∈ l, PlOk x) (hm : m < 4294967296) :
    Calls Try.prog 6 #[planA f m v, .int .i64 u] w (RetB (.bool true) w) := by
  have HOLD := Lib.hid (h.mono (G := fun b => b < w.heap.size) fun b hb _ => hb)
  obtain ⟨w1, P, hw1, hP, hPl, hb1, hbox⟩ := box_any w #[.int .i64 f, .int .u32 m, v] 25
  have HB1 := Lib.hid hb1
  have HH : Hid (∀ W, Below w1.heap.size w1 W → PlsAt W v l) := Lib.hid (fun W hk => h.keep (HB1.out.trans (hk.mono HB1.out.size)))
  have HS : Hid (∀ W, Below w1.heap.size w1 W → W.cell? ⟨P, 0, none⟩ = some (.int .i64 f) ∧ W.cell? ⟨P, 1, none⟩ = some (.int .u32 m) ∧ W.cell? ⟨P, 2, none⟩ = some v) := Lib.hid (fun W hk => three_heads (keep_block hbox hk))
  have HLI := Lib.hid (fun W (hk : Below w1.heap.size w1 W) => calls_iff (light_any f m v l W (HH.out W hk)))
  have HRI := Lib.hid (fun (hL : LightL l) W (hk : Below w1.heap.size w1 W) => calls_iff (right_any f m v l W (HH.out W hk) hL hm))
  have HAW := Lib.hid (fun W => awake_any W)
  have HK1 := Lib.hid (Below.refl w1.heap.size w1)
  unfold planA at HLI HRI ⊢
  obtain ⟨r0, r1, r2⟩ := HS.out _ HK1.out
  clear h hb1 hbox
  have mixed : Try.prog.follows .mixedOrders = true := by kernel_rfl
  have HOW : Hid (∀ W, Below w1.heap.size w1 W → PlsIn (fun b => b < w.heap.size) W v l) := Lib.hid (fun W hk => HOLD.out.keep (HB1.out.trans (hk.mono HB1.out.size)))
  by_cases hlit : Lit l
  · have hL := hlit.light ho
    have hl60 := hlit.2
    by_cases hr : Right f m l
    · have hl : l.length ≤ 1000 := by have := hL.len; omega
      have HYL := Lib.hid (fun W hk => (HLI.out W hk).1 hlit)
      have HYR := Lib.hid (fun W hk => (HRI.out hL W hk).1 hr)
      have HFI := Lib.hid (fun W (hk : Below w1.heap.size w1 W) => find_soft f m v l u W (HH.out W hk) hl (fun x hx => (hL.ok x hx).2))
      unfold planA RetFindS at HFI
      clear HRI HLI hlit
      cases hfo : findU l u with
      | none =>
        rw [hfo] at HFI
        obtain ⟨z, hz⟩ : ∃ z, (none : Option Pl).getD zeroPl = z := ⟨_, rfl⟩
        have eis : (none : Option Pl).isSome = false := rfl
        rw [hz, eis] at HFI
        clear hr hL ho hl hz eis hfo
        go_enter Try.func6, Try.ntmps6
        go_wp2_with fail
        refine (HYL.out _ HK1.out).mono ?_
        rintro e w2 ⟨rfl, hb2⟩
        have HK2 := Lib.hid (HK1.out.trans (hb2.mono HK1.out.size))
        clear hb2
        clear r0 r1 r2
        obtain ⟨r0, r1, r2⟩ := HS.out _ HK2.out
        go_wp2_with fail
        refine (HYR.out _ HK2.out).mono ?_
        rintro e w3 ⟨rfl, hb3⟩
        have HK3 := Lib.hid (HK2.out.trans (hb3.mono HK2.out.size))
        clear hb3
        clear r0 r1 r2
        obtain ⟨r0, r1, r2⟩ := HS.out _ HK3.out
        go_wp2_with fail
        refine (HFI.out _ HK3.out).mono ?_
        rintro e w4 ⟨vx, rfl, hps, hb4⟩
        have HK4 := Lib.hid (HK3.out.trans (hb4.mono HK3.out.size))
        have HSZ3 := Lib.hid (show w1.heap.size ≤ w3.heap.size from HK3.out.size)
        have HOWN := Lib.hid hps
        have hs34 := hb4.size
        clear hb4
        obtain ⟨AX, dX, hvX⟩ := hps.form
        subst hvX
        have HPSX := Lib.hid (hps.mono (G := fun b => b < w4.heap.size) fun b hb _ => hb)
        clear hps
        obtain ⟨w5, X, hw5, hX, hXl, hb5, hXbox⟩ := box_any w4 #[.int .i64 0, .int .i64 0, .int .i64 0, .slice none 0 0] 33
        have HK5 := Lib.hid (HK4.out.trans (hb5.mono HK4.out.size))
        have HBX := Lib.hid hXbox
        obtain ⟨w6, hw6⟩ : ∃ w6, w5.setRow X #[.int .i64 z.u, .int .i64 z.s, .int .i64 z.c, .slice AX z.ps.length dX] = w6 := ⟨_, rfl⟩
        have HK6 : Hid (Below w1.heap.size w1 w6) := Lib.hid (by rw [← hw6]; exact below_row HK5.out (by have := HK4.out.size; omega) _)
        have HXX : Hid (w6.heap[X]? = some (.cells #[.int .i64 z.u, .int .i64 z.s, .int .i64 z.c, .slice AX z.ps.length dX] 33 (0, 0))) := Lib.hid (by rw [← hw6]; exact setRow_heap _ _ _ _ _ _ HBX.out)
        have HPWX : Hid (PcsAt w6 (.slice AX z.ps.length dX) z.ps) := Lib.hid (by rw [← hw6]; exact (PcsIn.setRow (HPSX.out.keep hb5) (.inl (by omega))).any)
        clear hb5 hXbox r0 r1 r2
        obtain ⟨r0, r1, r2⟩ := HS.out _ HK6.out
        unfold plA
        go_wp2_with (refine wpList_store_row rfl _ _ _ rfl X #[.int .i64 z.u, .int .i64 z.s, .int .i64 z.c, .slice AX z.ps.length dX] rfl rfl 33 _ HBX.out (Try.sizePl _ _ _ _) rfl (one4 _ _ _ _ _ _) ?_)
        refine (HAW.out _).mono ?_
        rintro e w7 ⟨rfl, hb7⟩
        have HK7 := Lib.hid (HK6.out.trans (hb7.mono HK6.out.size))
        clear hb7
        go_wp2_with fail
        go_ret
        exact ⟨rfl, HB1.out.trans (HK7.out.mono HB1.out.size)⟩
      | some z =>
        rw [hfo] at HFI
        have eis : (some z).isSome = true := rfl
        have egd : (some z).getD zeroPl = z := rfl
        rw [egd, eis] at HFI
        obtain ⟨i, hi⟩ := List.mem_iff_getElem?.1 (List.mem_of_find?_eq_some hfo : z ∈ l)
        obtain rfl : z.u = u := by simpa using List.find?_some hfo
        have hzl : z.ps.length ≤ 1000 := (hL.ok z (List.mem_of_getElem? hi)).2
        have hdl : dropT l z.u = lessT l i := drop_less hr hi
        have hput := less_put hr hi
        have hdd : dropT (lessT l i) z.u = lessT l i := less_drop hput (less_ne hr hi)
        have hbk := less_back hi
        have HDR := Lib.hid (fun W (hk : Below w1.heap.size w1 W) => refDrop_any (fun b => b < w.heap.size) f m v l z.u W (HOW.out W hk) hl)
        rw [hdl] at HDR
        have hln : (lessT l i).length ≤ 1000 := by rw [← hdl]; exact Nat.le_trans (drop_le _ _) hl
        have HPP := Lib.hid (fun W (hk : Below w1.heap.size w1 W) vx (hx : PcsAt W vx z.ps) => planPut_any f m v vx l z W (HH.out W hk) hx (by omega) (fun x hx => (hL.ok x hx).2) hzl i (by rw [hdl]; exact hput))
        rw [hdl, hbk] at HPP
        have HRP := Lib.hid (fun (G : Nat → Prop) W va vb (ha : PlsIn G W va (lessT l i)) (hb : PcsIn G W vb z.ps) => refPut_any G f m va vb (lessT l i) z W ha hb hln i (by rw [hdd]; exact hput))
        rw [hdd, hbk] at HRP
        have HSM := Lib.hid (fun a b W (ha : PlsAt W a l) (hb : PlsAt W b l) => refSame_any f m a l f m b l W ha hb)
        rw [sameB_self] at HSM
        unfold planA at HSM
        unfold planA plA at HPP HRP
        unfold planA at HDR
        unfold RetPs planA at HDR
        unfold RetPn planA at HPP HRP
        have HZL := Lib.hid hzl
        generalize lessT l i = d at *
        clear hr hL ho hl eis egd hfo hi hzl hdl hput hdd hbk hln
        go_enter Try.func6, Try.ntmps6
        go_wp2_with fail
        refine (HYL.out _ HK1.out).mono ?_
        rintro e w2 ⟨rfl, hb2⟩
        have HK2 := Lib.hid (HK1.out.trans (hb2.mono HK1.out.size))
        clear hb2
        clear r0 r1 r2
        obtain ⟨r0, r1, r2⟩ := HS.out _ HK2.out
        go_wp2_with fail
        refine (HYR.out _ HK2.out).mono ?_
        rintro e w3 ⟨rfl, hb3⟩
        have HK3 := Lib.hid (HK2.out.trans (hb3.mono HK2.out.size))
        clear hb3
        clear r0 r1 r2
        obtain ⟨r0, r1, r2⟩ := HS.out _ HK3.out
        go_wp2_with fail
        refine (HFI.out _ HK3.out).mono ?_
        rintro e w4 ⟨vx, rfl, hps, hb4⟩
        have HK4 := Lib.hid (HK3.out.trans (hb4.mono HK3.out.size))
        have HSZ3 := Lib.hid (show w1.heap.size ≤ w3.heap.size from HK3.out.size)
        have HOWN := Lib.hid hps
        have hs34 := hb4.size
        clear hb4
        obtain ⟨AX, dX, hvX⟩ := hps.form
        subst hvX
        have HPSX := Lib.hid (hps.mono (G := fun b => b < w4.heap.size) fun b hb _ => hb)
        clear hps
        obtain ⟨w5, X, hw5, hX, hXl, hb5, hXbox⟩ := box_any w4 #[.int .i64 0, .int .i64 0, .int .i64 0, .slice none 0 0] 33
        have HK5 := Lib.hid (HK4.out.trans (hb5.mono HK4.out.size))
        have HBX := Lib.hid hXbox
        obtain ⟨w6, hw6⟩ : ∃ w6, w5.setRow X #[.int .i64 z.u, .int .i64 z.s, .int .i64 z.c, .slice AX z.ps.length dX] = w6 := ⟨_, rfl⟩
        have HK6 : Hid (Below w1.heap.size w1 w6) := Lib.hid (by rw [← hw6]; exact below_row HK5.out (by have := HK4.out.size; omega) _)
        have HXX : Hid (w6.heap[X]? = some (.cells #[.int .i64 z.u, .int .i64 z.s, .int .i64 z.c, .slice AX z.ps.length dX] 33 (0, 0))) := Lib.hid (by rw [← hw6]; exact setRow_heap _ _ _ _ _ _ HBX.out)
        have HPWX : Hid (PcsAt w6 (.slice AX z.ps.length dX) z.ps) := Lib.hid (by rw [← hw6]; exact (PcsIn.setRow (HPSX.out.keep hb5) (.inl (by omega))).any)
        clear hb5 hXbox r0 r1 r2
        obtain ⟨r0, r1, r2⟩ := HS.out _ HK6.out
        unfold plA
        have HX46 : Hid (∀ b, b < w4.heap.size → w6.heap[b]? = w4.heap[b]?) := Lib.hid (fun b hb => by
          rw [← hw6]
          refine (setRow_other _ _ _ _ (by omega)).trans ?_
          rw [← hw5]
          exact ((Below.refl _ w4).alloc (Nat.le_refl _) _).block b hb)
        have HS46 : Hid (w4.heap.size ≤ w6.heap.size) := Lib.hid (by rw [← hw6, ← hw5]; simp)
        have HS34 := Lib.hid (show w3.heap.size ≤ w4.heap.size from hs34)
        have HSW := Lib.hid (show w.heap.size ≤ w6.heap.size from Nat.le_trans HB1.out.size HK6.out.size)
        have HG : Hid (∀ W, Below w6.heap.size w6 W → Below w1.heap.size w1 W) := Lib.hid (fun W hk => HK6.out.trans (hk.mono HK6.out.size))
        have HS2 : Hid (∀ W, Below w6.heap.size w6 W → W.cell? ⟨P, 0, none⟩ = some (.int .i64 f) ∧ W.cell? ⟨P, 1, none⟩ = some (.int .u32 m) ∧ W.cell? ⟨P, 2, none⟩ = some (v) ∧ W.cell? ⟨X, 0, none⟩ = some (.int .i64 z.u) ∧ W.cell? ⟨X, 1, none⟩ = some (.int .i64 z.s) ∧ W.cell? ⟨X, 2, none⟩ = some (.int .i64 z.c) ∧ W.cell? ⟨X, 3, none⟩ = some (.slice AX z.ps.length dX)) := Lib.hid (fun W hk => by
          obtain ⟨a, b, c⟩ := HS.out W (HG.out _ hk)
          exact ⟨a, b, c, four_heads (keep_block HXX.out hk)⟩)
        have HPX := Lib.hid (fun W (hk : Below w6.heap.size w6 W) => HPWX.out.keep hk)
        have hk0 : Below w6.heap.size w6 w6.drew := (Below.refl _ w6).drew
        go_upto_region 6 with (refine wpList_store_row rfl _ _ _ rfl X #[.int .i64 z.u, .int .i64 z.s, .int .i64 z.c, .slice AX z.ps.length dX] rfl rfl 33 _ HBX.out (Try.sizePl _ _ _ _) rfl (one4 _ _ _ _ _ _) ?_)
        go_cut [7] from 27 to 41 (fun s7 wx => ∃ (Wb c : Nat) (A : Option Addr), s7 = .pointer (some ⟨Wb, 0, none⟩) ∧ w6.heap.size ≤ Wb ∧ wx.heap[Wb]? = some (.cells #[.int .i64 f, .int .u32 m, .slice A l.length c] 25 (0, 0)) ∧ PlsIn (fun b => b < w.heap.size ∨ w6.heap.size ≤ b) wx (.slice A l.length c) l ∧ Below w6.heap.size w6 wx)
        case first =>
          refine wp_region_held_drew (S := fun w' => w'.cell? ⟨P, 0, none⟩ = some (.int .i64 f) ∧ w'.cell? ⟨P, 1, none⟩ = some (.int .u32 m) ∧ w'.cell? ⟨P, 2, none⟩ = some (v) ∧ w'.cell? ⟨X, 0, none⟩ = some (.int .i64 z.u) ∧ w'.cell? ⟨X, 1, none⟩ = some (.int .i64 z.s) ∧ w'.cell? ⟨X, 2, none⟩ = some (.int .i64 z.c) ∧ w'.cell? ⟨X, 3, none⟩ = some (.slice AX z.ps.length dX)) (by kernel_rfl) ?_ (fun hHeld => ?_)
          · exact HS2.out _ hk0
          refine wpAnyH_take (i := 0) (oi := ⟨some 27, _, _, _, _, _⟩) (v := ?_) rfl (by kernel_rfl) (by kernel_rfl) (by kernel_rfl) (fun _ _ _ h => h) (Or.inl ⟨by kernel_rfl, ?_⟩) (by assumption) ?_
          rotate_left
          · (intro w hSw; (try dsimp only at hSw); go_simp; try with_reducible rfl)
          (try simp only [Act.put, List.setIfInBounds_toArray, List.set_cons_zero, List.set_cons_succ])
          refine wpAnyH_take (i := 1) (oi := ⟨some 28, _, _, _, _, _⟩) (v := ?_) rfl (by kernel_rfl) (by kernel_rfl) (by kernel_rfl) (fun _ _ _ h => h) (Or.inl ⟨by kernel_rfl, ?_⟩) (by assumption) ?_
          rotate_left
          · (intro w hSw; (try dsimp only at hSw); go_simp; try with_reducible rfl)
          (try simp only [Act.put, List.setIfInBounds_toArray, List.set_cons_zero, List.set_cons_succ])
          refine wpAnyH_take (i := 3) (oi := ⟨some 30, _, _, _, _, _⟩) (v := ?_) rfl (by kernel_rfl) (by kernel_rfl) (by kernel_rfl) (fun _ _ _ h => h) (Or.inl ⟨by kernel_rfl, ?_⟩) (by assumption) ?_
          rotate_left
          · (intro w hSw; (try dsimp only at hSw); go_simp; try with_reducible rfl)
          (try simp only [Act.put, List.setIfInBounds_toArray, List.set_cons_zero, List.set_cons_succ])
          refine wpAnyH_take (i := 4) (oi := ⟨some 31, _, _, _, _, _⟩) (v := ?_) rfl (by kernel_rfl) (by kernel_rfl) (by kernel_rfl) (fun _ _ _ h => h) (Or.inl ⟨by kernel_rfl, ?_⟩) (by assumption) ?_
          rotate_left
          · (intro w hSw; (try dsimp only at hSw); go_simp; try with_reducible rfl)
          (try simp only [Act.put, List.setIfInBounds_toArray, List.set_cons_zero, List.set_cons_succ])
          refine wpAnyH_take (i := 5) (oi := ⟨some 32, _, _, _, _, _⟩) (v := ?_) rfl (by kernel_rfl) (by kernel_rfl) (by kernel_rfl) (fun _ _ _ h => h) (Or.inl ⟨by kernel_rfl, ?_⟩) (by assumption) ?_
          rotate_left
          · (intro w hSw; (try dsimp only at hSw); go_simp; try with_reducible rfl)
          (try simp only [Act.put, List.setIfInBounds_toArray, List.set_cons_zero, List.set_cons_succ])
          refine wpAnyH_take (i := 6) (oi := ⟨some 33, _, _, _, _, _⟩) (v := ?_) rfl (by kernel_rfl) (by kernel_rfl) (by kernel_rfl) (fun _ _ _ h => h) (Or.inl ⟨by kernel_rfl, ?_⟩) (by assumption) ?_
          rotate_left
          · (intro w hSw; (try dsimp only at hSw); go_simp; try with_reducible rfl)
          (try simp only [Act.put, List.setIfInBounds_toArray, List.set_cons_zero, List.set_cons_succ])
          refine wpAnyH_take (i := 7) (oi := ⟨some 34, _, _, _, _, _⟩) (v := ?_) rfl (by kernel_rfl) (by kernel_rfl) (by kernel_rfl) (fun _ _ _ h => h) (Or.inl ⟨by kernel_rfl, ?_⟩) (by assumption) ?_
          rotate_left
          · (intro w hSw; (try dsimp only at hSw); go_simp; try with_reducible rfl)
          (try simp only [Act.put, List.setIfInBounds_toArray, List.set_cons_zero, List.set_cons_succ])
          refine wpAnyH_take (i := 8) (oi := ⟨some 35, _, _, _, _, _⟩) (v := ?_) rfl (by kernel_rfl) (by kernel_rfl) (by kernel_rfl) (fun _ _ _ h => h) (Or.inl ⟨by kernel_rfl, ?_⟩) (by assumption) ?_
          rotate_left
          · (intro w hSw; (try dsimp only at hSw); go_simp; try with_reducible rfl)
          (try simp only [Act.put, List.setIfInBounds_toArray, List.set_cons_zero, List.set_cons_succ])
          refine wpAnyH_take (i := 10) (oi := ⟨some 37, _, _, _, _, _⟩) (v := ?_) rfl (by kernel_rfl) (by kernel_rfl) (by kernel_rfl) (fun _ _ _ h => h) (Or.inl ⟨by kernel_rfl, ?_⟩) (by assumption) ?_
          rotate_left
          · (intro w hSw; (try dsimp only at hSw); go_simp; try with_reducible rfl)
          (try simp only [Act.put, List.setIfInBounds_toArray, List.set_cons_zero, List.set_cons_succ])
          refine wpAnyH_take (i := 11) (oi := ⟨some 38, _, _, _, _, _⟩) (v := ?_) rfl (by kernel_rfl) (by kernel_rfl) (by kernel_rfl) (fun _ _ _ h => h) (Or.inl ⟨by kernel_rfl, ?_⟩) (by assumption) ?_
          rotate_left
          · (intro w hSw; (try dsimp only at hSw); go_simp; try with_reducible rfl)
          (try simp only [Act.put, List.setIfInBounds_toArray, List.set_cons_zero, List.set_cons_succ])
          refine wpAnyH_ready (rs := [2, 9, 15]) (by kernel_rfl) (by simp) ?_
          refine AllReadyH.cons (o := ⟨some 29, _, _, _, _, _⟩) rfl (fun K hK => ?_) (AllReadyH.cons (o := ⟨some 36, _, _, _, _, _⟩) rfl (fun K hK => ?_) (AllReadyH.cons (o := ⟨some 7, _, _, _, _, _⟩) rfl (fun K hK => ?_) AllReadyH.nil))
          · rw [if_pos (by kernel_rfl)]
            go_simp
            go_at_call 35; refine (HDR.out _ (HG.out _ hk0)).mono ?_; rintro e wq1 ⟨bd, od, cd, rfl, hpd0, hb⟩
            have hk1 := hk0.trans (hb.mono hk0.size)
            have q1 := hk0.size
            have q2 := HSW.out
            have hpd : PlsIn (fun b => (b < w.heap.size ∨ w6.heap.size ≤ b)) wq1 (.slice (some ⟨bd, od, none⟩) d.length cd) d := hpd0.mono fun b hbl hF => by omega
            clear q1 q2
            refine hK.out _ _ ?_ (fun hHeld => ?_)
            · exact HS2.out _ hk1
            clear hK K
            (try simp only [Act.put, List.setIfInBounds_toArray, List.set_cons_zero, List.set_cons_succ])
            clear hb hpd0
            refine wpAnyH_ready (rs := [9, 15]) (by kernel_rfl) (by simp) ?_
            refine AllReadyH.cons (o := ⟨some 36, _, _, _, _, _⟩) rfl (fun K hK => ?_) (AllReadyH.cons (o := ⟨some 7, _, _, _, _, _⟩) rfl (fun K hK => ?_) AllReadyH.nil)
            · obtain ⟨wq2, E, hwE, hE, hEl, hb, hEb⟩ := box_any wq1 #[] 54
              have hk2 := hk1.trans (hb.mono hk1.size)
              have q1 := hk1.size
              have q2 := HSW.out
              have hElo : w6.heap.size ≤ E := by omega
              have hpd : PlsIn (fun b => (b < w.heap.size ∨ w6.heap.size ≤ b) ∧ b ≠ E) wq1 (.slice (some ⟨bd, od, none⟩) d.length cd) d := hpd.mono fun b hbl hF => by omega
              clear q1 q2
              have hpd := hpd.keep hb
              rw [if_pos (by kernel_rfl)]
              go_simp
              refine hK.out _ _ ?_ (fun hHeld => ?_)
              · exact HS2.out _ hk2
              clear hK K
              (try simp only [Act.put, List.setIfInBounds_toArray, List.set_cons_zero, List.set_cons_succ])
              clear hb hwE hE hEl
              refine wpAnyH_ready (rs := [12, 15]) (by kernel_rfl) (by simp) ?_
              refine AllReadyH.cons (o := ⟨some 39, _, _, _, _, _⟩) rfl (fun K hK => ?_) (AllReadyH.cons (o := ⟨some 7, _, _, _, _, _⟩) rfl (fun K hK => ?_) AllReadyH.nil)
              · obtain ⟨vA, wq3, hrA, hpA0, hb0, hbe⟩ := app_pcs wq2 E hEb (.slice AX z.ps.length dX) z.ps (HPX.out _ hk2) HZL.out
                obtain ⟨AA, dA, hvA⟩ := hpA0.form
                subst hvA
                have hk3 := hk2.trans (hb0.mono hElo)
                have q1 := hk2.size
                have q2 := HSW.out
                have q3 := heap_lt hEb
                have hpA : PcsIn (fun b => (b < w.heap.size ∨ w6.heap.size ≤ b)) wq3 (.slice AA z.ps.length dA) z.ps := hpA0.mono fun b hbl hF => by omega
                have hpd := hpd.keepF (hsz16 hb0 hbe) fun b hbl hF => hbe b hbl (by omega)
                have hpd : PlsIn (fun b => (b < w.heap.size ∨ w6.heap.size ≤ b)) wq3 (.slice (some ⟨bd, od, none⟩) d.length cd) d := hpd.mono fun b hbl hF => by omega
                clear q1 q2 q3
                refine step_append_run16 rfl _ _ 31 31 rfl _ _ (by simp [Act.eval, Act.put]) (by simp [Act.eval, Act.put]) hrA ?_
                refine hK.out _ _ ?_ (fun hHeld => ?_)
                · exact HS2.out _ hk3
                clear hK K
                (try simp only [Act.put, List.setIfInBounds_toArray, List.set_cons_zero, List.set_cons_succ])
                clear hb0 hbe hpA0 hrA hEb
                refine wpAnyH_take (i := 13) (oi := ⟨some 40, _, _, _, _, _⟩) (v := ?_) rfl (by kernel_rfl) (by kernel_rfl) (by kernel_rfl) (fun _ _ _ h => h) (Or.inl ⟨by kernel_rfl, ?_⟩) (by assumption) ?_
                rotate_left
                · (intro w hSw; (try dsimp only at hSw); go_simp; try with_reducible rfl)
                (try simp only [Act.put, List.setIfInBounds_toArray, List.set_cons_zero, List.set_cons_succ])
                refine wpAnyH_ready (rs := [14, 15]) (by kernel_rfl) (by simp) ?_
                refine AllReadyH.cons (o := ⟨some 41, _, _, _, _, _⟩) rfl (fun K hK => ?_) (AllReadyH.cons (o := ⟨some 7, _, _, _, _, _⟩) rfl (fun K hK => ?_) AllReadyH.nil)
                · rw [if_pos (by kernel_rfl)]
                  go_simp
                  go_at_call 34; refine (HRP.out (fun b => (b < w.heap.size ∨ w6.heap.size ≤ b)) _ _ _ (hpd.mono fun b hbl hF => by omega) hpA).mono ?_; rintro e wq4 ⟨vw, rfl, hpW0, hb⟩
                  obtain ⟨Aw, cw, hvw, _, _⟩ := hpW0.form
                  subst hvw
                  have hk4 := hk3.trans (hb.mono hk3.size)
                  have q1 := hk3.size
                  have hpW : PlsIn (fun b => (b < w.heap.size ∨ w6.heap.size ≤ b)) wq4 (.slice Aw l.length cw) l := hpW0.mono fun b hbl hF => by omega
                  clear q1
                  refine hK.out _ _ ?_ (fun hHeld => ?_)
                  · exact HS2.out _ hk4
                  clear hK K
                  (try simp only [Act.put, List.setIfInBounds_toArray, List.set_cons_zero, List.set_cons_succ])
                  clear hb hpW0 hpA hpd
                  refine wpAnyH_ready (rs := [15]) (by kernel_rfl) (by simp) ?_
                  refine AllReadyH.cons (o := ⟨some 7, _, _, _, _, _⟩) rfl (fun K hK => ?_) AllReadyH.nil
                  obtain ⟨wq5, Wb, hwW, hW, hWl, hb, hWb⟩ := box_any wq4 #[.int .i64 0, .int .u32 0, .slice none 0 0] 25
                  have hk5 := hk4.trans (hb.mono hk4.size)
                  have q1 := hk4.size
                  have q2 := HSW.out
                  have hWlo : w6.heap.size ≤ Wb := by omega
                  have hpW : PlsIn (fun b => (b < w.heap.size ∨ w6.heap.size ≤ b) ∧ b ≠ Wb) wq4 (.slice Aw l.length cw) l := hpW.mono fun b hbl hF => by omega
                  clear q1 q2
                  have hpW := hpW.keep hb
                  rw [if_pos (by kernel_rfl)]
                  go_simp
                  refine hK.out _ _ ?_ (fun hHeld => ?_)
                  · exact HS2.out _ hk5
                  clear hK K
                  (try simp only [Act.put, List.setIfInBounds_toArray, List.set_cons_zero, List.set_cons_succ])
                  clear hb hwW hW hWl
                  refine wpAnyH_ready (rs := [16]) (by kernel_rfl) (by simp) ?_
                  refine AllReadyH.cons (o := ⟨none, _, _, _, _, _⟩) rfl (fun K hK => ?_) AllReadyH.nil
                  refine step_store_row16 rfl _ _ _ rfl Wb #[.int .i64 f, .int .u32 m, .slice Aw l.length cw] (by simp [Act.eval, Act.put]) (by simp [Act.eval, Act.put]) 25 _ hWb (Try.sizePn _ _ _) rfl (one3 _ _ _ _ _) ?_
                  have hk6 := below_row hk5 hWlo #[.int .i64 f, .int .u32 m, .slice Aw l.length cw]
                  refine hK.out _ _ ?_ (fun hHeld => ?_)
                  · exact HS2.out _ hk6
                  clear hK K
                  (try simp only [Act.put, List.setIfInBounds_toArray, List.set_cons_zero, List.set_cons_succ])
                  refine wpAnyH_done (by kernel_rfl) ?_ _
                  go_wp2_with fail
                  go_meet
                  exact ⟨Wb, cw, Aw, rfl, hWlo, setRow_heap _ _ _ _ _ _ hWb, (PlsIn.setRow hpW (.inl fun h => h.2 rfl)).mono fun b _ h => h.1, hk6⟩
                · obtain ⟨wq4, Wb, hwW, hW, hWl, hb, hWb⟩ := box_any wq3 #[.int .i64 0, .int .u32 0, .slice none 0 0] 25
                  have hk4 := hk3.trans (hb.mono hk3.size)
                  have q1 := hk3.size
                  have q2 := HSW.out
                  have hWlo : w6.heap.size ≤ Wb := by omega
                  have hpd : PlsIn (fun b => (b < w.heap.size ∨ w6.heap.size ≤ b) ∧ b ≠ Wb) wq3 (.slice (some ⟨bd, od, none⟩) d.length cd) d := hpd.mono fun b hbl hF => by omega
                  have hpA : PcsIn (fun b => (b < w.heap.size ∨ w6.heap.size ≤ b) ∧ b ≠ Wb) wq3 (.slice AA z.ps.length dA) z.ps := hpA.mono fun b hbl hF => by omega
                  clear q1 q2
                  have hpd := hpd.keep hb
                  have hpA := hpA.keep hb
                  rw [if_pos (by kernel_rfl)]
                  go_simp
                  refine hK.out _ _ ?_ (fun hHeld => ?_)
                  · exact HS2.out _ hk4
                  clear hK K
                  (try simp only [Act.put, List.setIfInBounds_toArray, List.set_cons_zero, List.set_cons_succ])
                  clear hb hwW hW hWl
                  refine wpAnyH_ready (rs := [14]) (by kernel_rfl) (by simp) ?_
                  refine AllReadyH.cons (o := ⟨some 41, _, _, _, _, _⟩) rfl (fun K hK => ?_) AllReadyH.nil
                  rw [if_pos (by kernel_rfl)]
                  go_simp
                  go_at_call 34; refine (HRP.out (fun b => (b < w.heap.size ∨ w6.heap.size ≤ b) ∧ b ≠ Wb) _ _ _ (hpd.mono fun b hbl hF => by omega) hpA).mono ?_; rintro e wq5 ⟨vw, rfl, hpW0, hb⟩
                  obtain ⟨Aw, cw, hvw, _, _⟩ := hpW0.form
                  subst hvw
                  have hk5 := hk4.trans (hb.mono hk4.size)
                  have q1 := hk4.size
                  have q4 := heap_lt hWb
                  have hpW : PlsIn (fun b => (b < w.heap.size ∨ w6.heap.size ≤ b) ∧ b ≠ Wb) wq5 (.slice Aw l.length cw) l := hpW0.mono fun b hbl hF => by omega
                  clear q1 q4
                  have hWb := keep_block hWb hb
                  refine hK.out _ _ ?_ (fun hHeld => ?_)
                  · exact HS2.out _ hk5
                  clear hK K
                  (try simp only [Act.put, List.setIfInBounds_toArray, List.set_cons_zero, List.set_cons_succ])
                  clear hb hpW0 hpA hpd
                  refine wpAnyH_ready (rs := [16]) (by kernel_rfl) (by simp) ?_
                  refine AllReadyH.cons (o := ⟨none, _, _, _, _, _⟩) rfl (fun K hK => ?_) AllReadyH.nil
                  refine step_store_row16 rfl _ _ _ rfl Wb #[.int .i64 f, .int .u32 m, .slice Aw l.length cw] (by simp [Act.eval, Act.put]) (by simp [Act.eval, Act.put]) 25 _ hWb (Try.sizePn _ _ _) rfl (one3 _ _ _ _ _) ?_
                  have hk6 := below_row hk5 hWlo #[.int .i64 f, .int .u32 m, .slice Aw l.length cw]
                  refine hK.out _ _ ?_ (fun hHeld => ?_)
                  · exact HS2.out _ hk6
                  clear hK K
                  (try simp only [Act.put, List.setIfInBounds_toArray, List.set_cons_zero, List.set_cons_succ])
                  refine wpAnyH_done (by kernel_rfl) ?_ _
                  go_wp2_with fail
                  go_meet
                  exact ⟨Wb, cw, Aw, rfl, hWlo, setRow_heap _ _ _ _ _ _ hWb, (PlsIn.setRow hpW (.inl fun h => h.2 rfl)).mono fun b _ h => h.1, hk6⟩
              · obtain ⟨wq3, Wb, hwW, hW, hWl, hb, hWb⟩ := box_any wq2 #[.int .i64 0, .int .u32 0, .slice none 0 0] 25
                have hk3 := hk2.trans (hb.mono hk2.size)
                have q1 := hk2.size
                have q2 := HSW.out
                have q3 := heap_lt hEb
                have hWlo : w6.heap.size ≤ Wb := by omega
                have hEW : E ≠ Wb := by omega
                have hpd : PlsIn (fun b => (b < w.heap.size ∨ w6.heap.size ≤ b) ∧ b ≠ E ∧ b ≠ Wb) wq2 (.slice (some ⟨bd, od, none⟩) d.length cd) d := hpd.mono fun b hbl hF => by omega
                clear q1 q2 q3
                have hpd := hpd.keep hb
                have hEb := keep_block hEb hb
                rw [if_pos (by kernel_rfl)]
                go_simp
                refine hK.out _ _ ?_ (fun hHeld => ?_)
                · exact HS2.out _ hk3
                clear hK K
                (try simp only [Act.put, List.setIfInBounds_toArray, List.set_cons_zero, List.set_cons_succ])
                clear hb hwW hW hWl
                refine wpAnyH_ready (rs := [12]) (by kernel_rfl) (by simp) ?_
                refine AllReadyH.cons (o := ⟨some 39, _, _, _, _, _⟩) rfl (fun K hK => ?_) AllReadyH.nil
                obtain ⟨vA, wq4, hrA, hpA0, hb0, hbe⟩ := app_pcs wq3 E hEb (.slice AX z.ps.length dX) z.ps (HPX.out _ hk3) HZL.out
                obtain ⟨AA, dA, hvA⟩ := hpA0.form
                subst hvA
                have hk4 := hk3.trans (hb0.mono hElo)
                have q1 := hk3.size
                have q2 := HSW.out
                have q3 := heap_lt hEb
                have q4 := heap_lt hWb
                have hpA : PcsIn (fun b => (b < w.heap.size ∨ w6.heap.size ≤ b) ∧ b ≠ Wb) wq4 (.slice AA z.ps.length dA) z.ps := hpA0.mono fun b hbl hF => by omega
                have hpd := hpd.keepF (hsz16 hb0 hbe) fun b hbl hF => hbe b hbl (by omega)
                have hpd : PlsIn (fun b => (b < w.heap.size ∨ w6.heap.size ≤ b) ∧ b ≠ Wb) wq4 (.slice (some ⟨bd, od, none⟩) d.length cd) d := hpd.mono fun b hbl hF => by omega
                have hWb := (hbe Wb (heap_lt hWb) (Ne.symm hEW)).trans hWb
                clear q1 q2 q3 q4
                refine step_append_run16 rfl _ _ 31 31 rfl _ _ (by simp [Act.eval, Act.put]) (by simp [Act.eval, Act.put]) hrA ?_
                refine hK.out _ _ ?_ (fun hHeld => ?_)
                · exact HS2.out _ hk4
                clear hK K
                (try simp only [Act.put, List.setIfInBounds_toArray, List.set_cons_zero, List.set_cons_succ])
                clear hb0 hbe hpA0 hrA hEb
                refine wpAnyH_take (i := 13) (oi := ⟨some 40, _, _, _, _, _⟩) (v := ?_) rfl (by kernel_rfl) (by kernel_rfl) (by kernel_rfl) (fun _ _ _ h => h) (Or.inl ⟨by kernel_rfl, ?_⟩) (by assumption) ?_
                rotate_left
                · (intro w hSw; (try dsimp only at hSw); go_simp; try with_reducible rfl)
                (try simp only [Act.put, List.setIfInBounds_toArray, List.set_cons_zero, List.set_cons_succ])
                refine wpAnyH_ready (rs := [14]) (by kernel_rfl) (by simp) ?_
                refine AllReadyH.cons (o := ⟨some 41, _, _, _, _, _⟩) rfl (fun K hK => ?_) AllReadyH.nil
                rw [if_pos (by kernel_rfl)]
                go_simp
                go_at_call 34; refine (HRP.out (fun b => (b < w.heap.size ∨ w6.heap.size ≤ b) ∧ b ≠ Wb) _ _ _ (hpd.mono fun b hbl hF => by omega) hpA).mono ?_; rintro e wq5 ⟨vw, rfl, hpW0, hb⟩
                obtain ⟨Aw, cw, hvw, _, _⟩ := hpW0.form
                subst hvw
                have hk5 := hk4.trans (hb.mono hk4.size)
                have q1 := hk4.size
                have q4 := heap_lt hWb
                have hpW : PlsIn (fun b => (b < w.heap.size ∨ w6.heap.size ≤ b) ∧ b ≠ Wb) wq5 (.slice Aw l.length cw) l := hpW0.mono fun b hbl hF => by omega
                clear q1 q4
                have hWb := keep_block hWb hb
                refine hK.out _ _ ?_ (fun hHeld => ?_)
                · exact HS2.out _ hk5
                clear hK K
                (try simp only [Act.put, List.setIfInBounds_toArray, List.set_cons_zero, List.set_cons_succ])
                clear hb hpW0 hpA hpd
                refine wpAnyH_ready (rs := [16]) (by kernel_rfl) (by simp) ?_
                refine AllReadyH.cons (o := ⟨none, _, _, _, _, _⟩) rfl (fun K hK => ?_) AllReadyH.nil
                refine step_store_row16 rfl _ _ _ rfl Wb #[.int .i64 f, .int .u32 m, .slice Aw l.length cw] (by simp [Act.eval, Act.put]) (by simp [Act.eval, Act.put]) 25 _ hWb (Try.sizePn _ _ _) rfl (one3 _ _ _ _ _) ?_
                have hk6 := below_row hk5 hWlo #[.int .i64 f, .int .u32 m, .slice Aw l.length cw]
                refine hK.out _ _ ?_ (fun hHeld => ?_)
                · exact HS2.out _ hk6
                clear hK K
                (try simp only [Act.put, List.setIfInBounds_toArray, List.set_cons_zero, List.set_cons_succ])
                refine wpAnyH_done (by kernel_rfl) ?_ _
                go_wp2_with fail
                go_meet
                exact ⟨Wb, cw, Aw, rfl, hWlo, setRow_heap _ _ _ _ _ _ hWb, (PlsIn.setRow hpW (.inl fun h => h.2 rfl)).mono fun b _ h => h.1, hk6⟩
            · obtain ⟨wq2, Wb, hwW, hW, hWl, hb, hWb⟩ := box_any wq1 #[.int .i64 0, .int .u32 0, .slice none 0 0] 25
              have hk2 := hk1.trans (hb.mono hk1.size)
              have q1 := hk1.size
              have q2 := HSW.out
              have hWlo : w6.heap.size ≤ Wb := by omega
              have hpd : PlsIn (fun b => (b < w.heap.size ∨ w6.heap.size ≤ b) ∧ b ≠ Wb) wq1 (.slice (some ⟨bd, od, none⟩) d.length cd) d := hpd.mono fun b hbl hF => by omega
              clear q1 q2
              have hpd := hpd.keep hb
              rw [if_pos (by kernel_rfl)]
              go_simp
              refine hK.out _ _ ?_ (fun hHeld => ?_)
              · exact HS2.out _ hk2
              clear hK K
              (try simp only [Act.put, List.setIfInBounds_toArray, List.set_cons_zero, List.set_cons_succ])
              clear hb hwW hW hWl
              refine wpAnyH_ready (rs := [9]) (by kernel_rfl) (by simp) ?_
              refine AllReadyH.cons (o := ⟨some 36, _, _, _, _, _⟩) rfl (fun K hK => ?_) AllReadyH.nil
              obtain ⟨wq3, E, hwE, hE, hEl, hb, hEb⟩ := box_any wq2 #[] 54
              have hk3 := hk2.trans (hb.mono hk2.size)
              have q1 := hk2.size
              have q2 := HSW.out
              have q4 := heap_lt hWb
              have hElo : w6.heap.size ≤ E := by omega
              have hEW : E ≠ Wb := by omega
              have hpd : PlsIn (fun b => (b < w.heap.size ∨ w6.heap.size ≤ b) ∧ b ≠ E ∧ b ≠ Wb) wq2 (.slice (some ⟨bd, od, none⟩) d.length cd) d := hpd.mono fun b hbl hF => by omega
              clear q1 q2 q4
              have hpd := hpd.keep hb
              have hWb := keep_block hWb hb
              rw [if_pos (by kernel_rfl)]
              go_simp
              refine hK.out _ _ ?_ (fun hHeld => ?_)
              · exact HS2.out _ hk3
              clear hK K
              (try simp only [Act.put, List.setIfInBounds_toArray, List.set_cons_zero, List.set_cons_succ])
              clear hb hwE hE hEl
              refine wpAnyH_ready (rs := [12]) (by kernel_rfl) (by simp) ?_
              refine AllReadyH.cons (o := ⟨some 39, _, _, _, _, _⟩) rfl (fun K hK => ?_) AllReadyH.nil
              obtain ⟨vA, wq4, hrA, hpA0, hb0, hbe⟩ := app_pcs wq3 E hEb (.slice AX z.ps.length dX) z.ps (HPX.out _ hk3) HZL.out
              obtain ⟨AA, dA, hvA⟩ := hpA0.form
              subst hvA
              have hk4 := hk3.trans (hb0.mono hElo)
              have q1 := hk3.size
              have q2 := HSW.out
              have q3 := heap_lt hEb
              have q4 := heap_lt hWb
              have hpA : PcsIn (fun b => (b < w.heap.size ∨ w6.heap.size ≤ b) ∧ b ≠ Wb) wq4 (.slice AA z.ps.length dA) z.ps := hpA0.mono fun b hbl hF => by omega
              have hpd := hpd.keepF (hsz16 hb0 hbe) fun b hbl hF => hbe b hbl (by omega)
              have hpd : PlsIn (fun b => (b < w.heap.size ∨ w6.heap.size ≤ b) ∧ b ≠ Wb) wq4 (.slice (some ⟨bd, od, none⟩) d.length cd) d := hpd.mono fun b hbl hF => by omega
              have hWb := (hbe Wb (heap_lt hWb) (Ne.symm hEW)).trans hWb
              clear q1 q2 q3 q4
              refine step_append_run16 rfl _ _ 31 31 rfl _ _ (by simp [Act.eval, Act.put]) (by simp [Act.eval, Act.put]) hrA ?_
              refine hK.out _ _ ?_ (fun hHeld => ?_)
              · exact HS2.out _ hk4
              clear hK K
              (try simp only [Act.put, List.setIfInBounds_toArray, List.set_cons_zero, List.set_cons_succ])
              clear hb0 hbe hpA0 hrA hEb
              refine wpAnyH_take (i := 13) (oi := ⟨some 40, _, _, _, _, _⟩) (v := ?_) rfl (by kernel_rfl) (by kernel_rfl) (by kernel_rfl) (fun _ _ _ h => h) (Or.inl ⟨by kernel_rfl, ?_⟩) (by assumption) ?_
              rotate_left
              · (intro w hSw; (try dsimp only at hSw); go_simp; try with_reducible rfl)
              (try simp only [Act.put, List.setIfInBounds_toArray, List.set_cons_zero, List.set_cons_succ])
              refine wpAnyH_ready (rs := [14]) (by kernel_rfl) (by simp) ?_
              refine AllReadyH.cons (o := ⟨some 41, _, _, _, _, _⟩) rfl (fun K hK => ?_) AllReadyH.nil
              rw [if_pos (by kernel_rfl)]
              go_simp
              go_at_call 34; refine (HRP.out (fun b => (b < w.heap.size ∨ w6.heap.size ≤ b) ∧ b ≠ Wb) _ _ _ (hpd.mono fun b hbl hF => by omega) hpA).mono ?_; rintro e wq5 ⟨vw, rfl, hpW0, hb⟩
              obtain ⟨Aw, cw, hvw, _, _⟩ := hpW0.form
              subst hvw
              have hk5 := hk4.trans (hb.mono hk4.size)
              have q1 := hk4.size
              have q4 := heap_lt hWb
              have hpW : PlsIn (fun b => (b < w.heap.size ∨ w6.heap.size ≤ b) ∧ b ≠ Wb) wq5 (.slice Aw l.length cw) l := hpW0.mono fun b hbl hF => by omega
              clear q1 q4
              have hWb := keep_block hWb hb
              refine hK.out _ _ ?_ (fun hHeld => ?_)
              · exact HS2.out _ hk5
              clear hK K
              (try simp only [Act.put, List.setIfInBounds_toArray, List.set_cons_zero, List.set_cons_succ])
              clear hb hpW0 hpA hpd
              refine wpAnyH_ready (rs := [16]) (by kernel_rfl) (by simp) ?_
              refine AllReadyH.cons (o := ⟨none, _, _, _, _, _⟩) rfl (fun K hK => ?_) AllReadyH.nil
              refine step_store_row16 rfl _ _ _ rfl Wb #[.int .i64 f, .int .u32 m, .slice Aw l.length cw] (by simp [Act.eval, Act.put]) (by simp [Act.eval, Act.put]) 25 _ hWb (Try.sizePn _ _ _) rfl (one3 _ _ _ _ _) ?_
              have hk6 := below_row hk5 hWlo #[.int .i64 f, .int .u32 m, .slice Aw l.length cw]
              refine hK.out _ _ ?_ (fun hHeld => ?_)
              · exact HS2.out _ hk6
              clear hK K
              (try simp only [Act.put, List.setIfInBounds_toArray, List.set_cons_zero, List.set_cons_succ])
              refine wpAnyH_done (by kernel_rfl) ?_ _
              go_wp2_with fail
              go_meet
              exact ⟨Wb, cw, Aw, rfl, hWlo, setRow_heap _ _ _ _ _ _ hWb, (PlsIn.setRow hpW (.inl fun h => h.2 rfl)).mono fun b _ h => h.1, hk6⟩
          · obtain ⟨wq1, E, hwE, hE, hEl, hb, hEb⟩ := box_any w6.drew #[] 54
            have hk1 := hk0.trans (hb.mono hk0.size)
            have q1 := hk0.size
            have q2 := HSW.out
            have hElo : w6.heap.size ≤ E := by omega
            clear q1 q2
            rw [if_pos (by kernel_rfl)]
            go_simp
            refine hK.out _ _ ?_ (fun hHeld => ?_)
            · exact HS2.out _ hk1
            clear hK K
            (try simp only [Act.put, List.setIfInBounds_toArray, List.set_cons_zero, List.set_cons_succ])
            clear hb hwE hE hEl
            refine wpAnyH_ready (rs := [2, 15]) (by kernel_rfl) (by simp) ?_
            refine AllReadyH.cons (o := ⟨some 29, _, _, _, _, _⟩) rfl (fun K hK => ?_) (AllReadyH.cons (o := ⟨some 7, _, _, _, _, _⟩) rfl (fun K hK => ?_) AllReadyH.nil)
            · rw [if_pos (by kernel_rfl)]
              go_simp
              go_at_call 35; refine (HDR.out _ (HG.out _ hk1)).mono ?_; rintro e wq2 ⟨bd, od, cd, rfl, hpd0, hb⟩
              have hk2 := hk1.trans (hb.mono hk1.size)
              have q1 := hk1.size
              have q2 := HSW.out
              have q3 := heap_lt hEb
              have hpd : PlsIn (fun b => (b < w.heap.size ∨ w6.heap.size ≤ b) ∧ b ≠ E) wq2 (.slice (some ⟨bd, od, none⟩) d.length cd) d := hpd0.mono fun b hbl hF => by omega
              clear q1 q2 q3
              have hEb := keep_block hEb hb
              refine hK.out _ _ ?_ (fun hHeld => ?_)
              · exact HS2.out _ hk2
              clear hK K
              (try simp only [Act.put, List.setIfInBounds_toArray, List.set_cons_zero, List.set_cons_succ])
              clear hb hpd0
              refine wpAnyH_ready (rs := [12, 15]) (by kernel_rfl) (by simp) ?_
              refine AllReadyH.cons (o := ⟨some 39, _, _, _, _, _⟩) rfl (fun K hK => ?_) (AllReadyH.cons (o := ⟨some 7, _, _, _, _, _⟩) rfl (fun K hK => ?_) AllReadyH.nil)
              · obtain ⟨vA, wq3, hrA, hpA0, hb0, hbe⟩ := app_pcs wq2 E hEb (.slice AX z.ps.length dX) z.ps (HPX.out _ hk2) HZL.out
                obtain ⟨AA, dA, hvA⟩ := hpA0.form
                subst hvA
                have hk3 := hk2.trans (hb0.mono hElo)
                have q1 := hk2.size
                have q2 := HSW.out
                have q3 := heap_lt hEb
                have hpA : PcsIn (fun b => (b < w.heap.size ∨ w6.heap.size ≤ b)) wq3 (.slice AA z.ps.length dA) z.ps := hpA0.mono fun b hbl hF => by omega
                have hpd := hpd.keepF (hsz16 hb0 hbe) fun b hbl hF => hbe b hbl (by omega)
                have hpd : PlsIn (fun b => (b < w.heap.size ∨ w6.heap.size ≤ b)) wq3 (.slice (some ⟨bd, od, none⟩) d.length cd) d := hpd.mono fun b hbl hF => by omega
                clear q1 q2 q3
                refine step_append_run16 rfl _ _ 31 31 rfl _ _ (by simp [Act.eval, Act.put]) (by simp [Act.eval, Act.put]) hrA ?_
                refine hK.out _ _ ?_ (fun hHeld => ?_)
                · exact HS2.out _ hk3
                clear hK K
                (try simp only [Act.put, List.setIfInBounds_toArray, List.set_cons_zero, List.set_cons_succ])
                clear hb0 hbe hpA0 hrA hEb
                refine wpAnyH_take (i := 13) (oi := ⟨some 40, _, _, _, _, _⟩) (v := ?_) rfl (by kernel_rfl) (by kernel_rfl) (by kernel_rfl) (fun _ _ _ h => h) (Or.inl ⟨by kernel_rfl, ?_⟩) (by assumption) ?_
                rotate_left
                · (intro w hSw; (try dsimp only at hSw); go_simp; try with_reducible rfl)
                (try simp only [Act.put, List.setIfInBounds_toArray, List.set_cons_zero, List.set_cons_succ])
                refine wpAnyH_ready (rs := [14, 15]) (by kernel_rfl) (by simp) ?_
                refine AllReadyH.cons (o := ⟨some 41, _, _, _, _, _⟩) rfl (fun K hK => ?_) (AllReadyH.cons (o := ⟨some 7, _, _, _, _, _⟩) rfl (fun K hK => ?_) AllReadyH.nil)
                · rw [if_pos (by kernel_rfl)]
                  go_simp
                  go_at_call 34; refine (HRP.out (fun b => (b < w.heap.size ∨ w6.heap.size ≤ b)) _ _ _ (hpd.mono fun b hbl hF => by omega) hpA).mono ?_; rintro e wq4 ⟨vw, rfl, hpW0, hb⟩
                  obtain ⟨Aw, cw, hvw, _, _⟩ := hpW0.form
                  subst hvw
                  have hk4 := hk3.trans (hb.mono hk3.size)
                  have q1 := hk3.size
                  have hpW : PlsIn (fun b => (b < w.heap.size ∨ w6.heap.size ≤ b)) wq4 (.slice Aw l.length cw) l := hpW0.mono fun b hbl hF => by omega
                  clear q1
                  refine hK.out _ _ ?_ (fun hHeld => ?_)
                  · exact HS2.out _ hk4
                  clear hK K
                  (try simp only [Act.put, List.setIfInBounds_toArray, List.set_cons_zero, List.set_cons_succ])
                  clear hb hpW0 hpA hpd
                  refine wpAnyH_ready (rs := [15]) (by kernel_rfl) (by simp) ?_
                  refine AllReadyH.cons (o := ⟨some 7, _, _, _, _, _⟩) rfl (fun K hK => ?_) AllReadyH.nil
                  obtain ⟨wq5, Wb, hwW, hW, hWl, hb, hWb⟩ := box_any wq4 #[.int .i64 0, .int .u32 0, .slice none 0 0] 25
                  have hk5 := hk4.trans (hb.mono hk4.size)
                  have q1 := hk4.size
                  have q2 := HSW.out
                  have hWlo : w6.heap.size ≤ Wb := by omega
                  have hpW : PlsIn (fun b => (b < w.heap.size ∨ w6.heap.size ≤ b) ∧ b ≠ Wb) wq4 (.slice Aw l.length cw) l := hpW.mono fun b hbl hF => by omega
                  clear q1 q2
                  have hpW := hpW.keep hb
                  rw [if_pos (by kernel_rfl)]
                  go_simp
                  refine hK.out _ _ ?_ (fun hHeld => ?_)
                  · exact HS2.out _ hk5
                  clear hK K
                  (try simp only [Act.put, List.setIfInBounds_toArray, List.set_cons_zero, List.set_cons_succ])
                  clear hb hwW hW hWl
                  refine wpAnyH_ready (rs := [16]) (by kernel_rfl) (by simp) ?_
                  refine AllReadyH.cons (o := ⟨none, _, _, _, _, _⟩) rfl (fun K hK => ?_) AllReadyH.nil
                  refine step_store_row16 rfl _ _ _ rfl Wb #[.int .i64 f, .int .u32 m, .slice Aw l.length cw] (by simp [Act.eval, Act.put]) (by simp [Act.eval, Act.put]) 25 _ hWb (Try.sizePn _ _ _) rfl (one3 _ _ _ _ _) ?_
                  have hk6 := below_row hk5 hWlo #[.int .i64 f, .int .u32 m, .slice Aw l.length cw]
                  refine hK.out _ _ ?_ (fun hHeld => ?_)
                  · exact HS2.out _ hk6
                  clear hK K
                  (try simp only [Act.put, List.setIfInBounds_toArray, List.set_cons_zero, List.set_cons_succ])
                  refine wpAnyH_done (by kernel_rfl) ?_ _
                  go_wp2_with fail
                  go_meet
                  exact ⟨Wb, cw, Aw, rfl, hWlo, setRow_heap _ _ _ _ _ _ hWb, (PlsIn.setRow hpW (.inl fun h => h.2 rfl)).mono fun b _ h => h.1, hk6⟩
                · obtain ⟨wq4, Wb, hwW, hW, hWl, hb, hWb⟩ := box_any wq3 #[.int .i64 0, .int .u32 0, .slice none 0 0] 25
                  have hk4 := hk3.trans (hb.mono hk3.size)
                  have q1 := hk3.size
                  have q2 := HSW.out
                  have hWlo : w6.heap.size ≤ Wb := by omega
                  have hpd : PlsIn (fun b => (b < w.heap.size ∨ w6.heap.size ≤ b) ∧ b ≠ Wb) wq3 (.slice (some ⟨bd, od, none⟩) d.length cd) d := hpd.mono fun b hbl hF => by omega
                  have hpA : PcsIn (fun b => (b < w.heap.size ∨ w6.heap.size ≤ b) ∧ b ≠ Wb) wq3 (.slice AA z.ps.length dA) z.ps := hpA.mono fun b hbl hF => by omega
                  clear q1 q2
                  have hpd := hpd.keep hb
                  have hpA := hpA.keep hb
                  rw [if_pos (by kernel_rfl)]
                  go_simp
                  refine hK.out _ _ ?_ (fun hHeld => ?_)
                  · exact HS2.out _ hk4
                  clear hK K
                  (try simp only [Act.put, List.setIfInBounds_toArray, List.set_cons_zero, List.set_cons_succ])
                  clear hb hwW hW hWl
                  refine wpAnyH_ready (rs := [14]) (by kernel_rfl) (by simp) ?_
                  refine AllReadyH.cons (o := ⟨some 41, _, _, _, _, _⟩) rfl (fun K hK => ?_) AllReadyH.nil
                  rw [if_pos (by kernel_rfl)]
                  go_simp
                  go_at_call 34; refine (HRP.out (fun b => (b < w.heap.size ∨ w6.heap.size ≤ b) ∧ b ≠ Wb) _ _ _ (hpd.mono fun b hbl hF => by omega) hpA).mono ?_; rintro e wq5 ⟨vw, rfl, hpW0, hb⟩
                  obtain ⟨Aw, cw, hvw, _, _⟩ := hpW0.form
                  subst hvw
                  have hk5 := hk4.trans (hb.mono hk4.size)
                  have q1 := hk4.size
                  have q4 := heap_lt hWb
                  have hpW : PlsIn (fun b => (b < w.heap.size ∨ w6.heap.size ≤ b) ∧ b ≠ Wb) wq5 (.slice Aw l.length cw) l := hpW0.mono fun b hbl hF => by omega
                  clear q1 q4
                  have hWb := keep_block hWb hb
                  refine hK.out _ _ ?_ (fun hHeld => ?_)
                  · exact HS2.out _ hk5
                  clear hK K
                  (try simp only [Act.put, List.setIfInBounds_toArray, List.set_cons_zero, List.set_cons_succ])
                  clear hb hpW0 hpA hpd
                  refine wpAnyH_ready (rs := [16]) (by kernel_rfl) (by simp) ?_
                  refine AllReadyH.cons (o := ⟨none, _, _, _, _, _⟩) rfl (fun K hK => ?_) AllReadyH.nil
                  refine step_store_row16 rfl _ _ _ rfl Wb #[.int .i64 f, .int .u32 m, .slice Aw l.length cw] (by simp [Act.eval, Act.put]) (by simp [Act.eval, Act.put]) 25 _ hWb (Try.sizePn _ _ _) rfl (one3 _ _ _ _ _) ?_
                  have hk6 := below_row hk5 hWlo #[.int .i64 f, .int .u32 m, .slice Aw l.length cw]
                  refine hK.out _ _ ?_ (fun hHeld => ?_)
                  · exact HS2.out _ hk6
                  clear hK K
                  (try simp only [Act.put, List.setIfInBounds_toArray, List.set_cons_zero, List.set_cons_succ])
                  refine wpAnyH_done (by kernel_rfl) ?_ _
                  go_wp2_with fail
                  go_meet
                  exact ⟨Wb, cw, Aw, rfl, hWlo, setRow_heap _ _ _ _ _ _ hWb, (PlsIn.setRow hpW (.inl fun h => h.2 rfl)).mono fun b _ h => h.1, hk6⟩
              · obtain ⟨wq3, Wb, hwW, hW, hWl, hb, hWb⟩ := box_any wq2 #[.int .i64 0, .int .u32 0, .slice none 0 0] 25
                have hk3 := hk2.trans (hb.mono hk2.size)
                have q1 := hk2.size
                have q2 := HSW.out
                have q3 := heap_lt hEb
                have hWlo : w6.heap.size ≤ Wb := by omega
                have hEW : E ≠ Wb := by omega
                have hpd : PlsIn (fun b => (b < w.heap.size ∨ w6.heap.size ≤ b) ∧ b ≠ E ∧ b ≠ Wb) wq2 (.slice (some ⟨bd, od, none⟩) d.length cd) d := hpd.mono fun b hbl hF => by omega
                clear q1 q2 q3
                have hpd := hpd.keep hb
                have hEb := keep_block hEb hb
                rw [if_pos (by kernel_rfl)]
                go_simp
                refine hK.out _ _ ?_ (fun hHeld => ?_)
                · exact HS2.out _ hk3
                clear hK K
                (try simp only [Act.put, List.setIfInBounds_toArray, List.set_cons_zero, List.set_cons_succ])
                clear hb hwW hW hWl
                refine wpAnyH_ready (rs := [12]) (by kernel_rfl) (by simp) ?_
                refine AllReadyH.cons (o := ⟨some 39, _, _, _, _, _⟩) rfl (fun K hK => ?_) AllReadyH.nil
                obtain ⟨vA, wq4, hrA, hpA0, hb0, hbe⟩ := app_pcs wq3 E hEb (.slice AX z.ps.length dX) z.ps (HPX.out _ hk3) HZL.out
                obtain ⟨AA, dA, hvA⟩ := hpA0.form
                subst hvA
                have hk4 := hk3.trans (hb0.mono hElo)
                have q1 := hk3.size
                have q2 := HSW.out
                have q3 := heap_lt hEb
                have q4 := heap_lt hWb
                have hpA : PcsIn (fun b => (b < w.heap.size ∨ w6.heap.size ≤ b) ∧ b ≠ Wb) wq4 (.slice AA z.ps.length dA) z.ps := hpA0.mono fun b hbl hF => by omega
                have hpd := hpd.keepF (hsz16 hb0 hbe) fun b hbl hF => hbe b hbl (by omega)
                have hpd : PlsIn (fun b => (b < w.heap.size ∨ w6.heap.size ≤ b) ∧ b ≠ Wb) wq4 (.slice (some ⟨bd, od, none⟩) d.length cd) d := hpd.mono fun b hbl hF => by omega
                have hWb := (hbe Wb (heap_lt hWb) (Ne.symm hEW)).trans hWb
                clear q1 q2 q3 q4
                refine step_append_run16 rfl _ _ 31 31 rfl _ _ (by simp [Act.eval, Act.put]) (by simp [Act.eval, Act.put]) hrA ?_
                refine hK.out _ _ ?_ (fun hHeld => ?_)
                · exact HS2.out _ hk4
                clear hK K
                (try simp only [Act.put, List.setIfInBounds_toArray, List.set_cons_zero, List.set_cons_succ])
                clear hb0 hbe hpA0 hrA hEb
                refine wpAnyH_take (i := 13) (oi := ⟨some 40, _, _, _, _, _⟩) (v := ?_) rfl (by kernel_rfl) (by kernel_rfl) (by kernel_rfl) (fun _ _ _ h => h) (Or.inl ⟨by kernel_rfl, ?_⟩) (by assumption) ?_
                rotate_left
                · (intro w hSw; (try dsimp only at hSw); go_simp; try with_reducible rfl)
                (try simp only [Act.put, List.setIfInBounds_toArray, List.set_cons_zero, List.set_cons_succ])
                refine wpAnyH_ready (rs := [14]) (by kernel_rfl) (by simp) ?_
                refine AllReadyH.cons (o := ⟨some 41, _, _, _, _, _⟩) rfl (fun K hK => ?_) AllReadyH.nil
                rw [if_pos (by kernel_rfl)]
                go_simp
                go_at_call 34; refine (HRP.out (fun b => (b < w.heap.size ∨ w6.heap.size ≤ b) ∧ b ≠ Wb) _ _ _ (hpd.mono fun b hbl hF => by omega) hpA).mono ?_; rintro e wq5 ⟨vw, rfl, hpW0, hb⟩
                obtain ⟨Aw, cw, hvw, _, _⟩ := hpW0.form
                subst hvw
                have hk5 := hk4.trans (hb.mono hk4.size)
                have q1 := hk4.size
                have q4 := heap_lt hWb
                have hpW : PlsIn (fun b => (b < w.heap.size ∨ w6.heap.size ≤ b) ∧ b ≠ Wb) wq5 (.slice Aw l.length cw) l := hpW0.mono fun b hbl hF => by omega
                clear q1 q4
                have hWb := keep_block hWb hb
                refine hK.out _ _ ?_ (fun hHeld => ?_)
                · exact HS2.out _ hk5
                clear hK K
                (try simp only [Act.put, List.setIfInBounds_toArray, List.set_cons_zero, List.set_cons_succ])
                clear hb hpW0 hpA hpd
                refine wpAnyH_ready (rs := [16]) (by kernel_rfl) (by simp) ?_
                refine AllReadyH.cons (o := ⟨none, _, _, _, _, _⟩) rfl (fun K hK => ?_) AllReadyH.nil
                refine step_store_row16 rfl _ _ _ rfl Wb #[.int .i64 f, .int .u32 m, .slice Aw l.length cw] (by simp [Act.eval, Act.put]) (by simp [Act.eval, Act.put]) 25 _ hWb (Try.sizePn _ _ _) rfl (one3 _ _ _ _ _) ?_
                have hk6 := below_row hk5 hWlo #[.int .i64 f, .int .u32 m, .slice Aw l.length cw]
                refine hK.out _ _ ?_ (fun hHeld => ?_)
                · exact HS2.out _ hk6
                clear hK K
                (try simp only [Act.put, List.setIfInBounds_toArray, List.set_cons_zero, List.set_cons_succ])
                refine wpAnyH_done (by kernel_rfl) ?_ _
                go_wp2_with fail
                go_meet
                exact ⟨Wb, cw, Aw, rfl, hWlo, setRow_heap _ _ _ _ _ _ hWb, (PlsIn.setRow hpW (.inl fun h => h.2 rfl)).mono fun b _ h => h.1, hk6⟩
            · obtain ⟨wq2, Wb, hwW, hW, hWl, hb, hWb⟩ := box_any wq1 #[.int .i64 0, .int .u32 0, .slice none 0 0] 25
              have hk2 := hk1.trans (hb.mono hk1.size)
              have q1 := hk1.size
              have q2 := HSW.out
              have q3 := heap_lt hEb
              have hWlo : w6.heap.size ≤ Wb := by omega
              have hEW : E ≠ Wb := by omega
              clear q1 q2 q3
              have hEb := keep_block hEb hb
              rw [if_pos (by kernel_rfl)]
              go_simp
              refine hK.out _ _ ?_ (fun hHeld => ?_)
              · exact HS2.out _ hk2
              clear hK K
              (try simp only [Act.put, List.setIfInBounds_toArray, List.set_cons_zero, List.set_cons_succ])
              clear hb hwW hW hWl
              refine wpAnyH_ready (rs := [2]) (by kernel_rfl) (by simp) ?_
              refine AllReadyH.cons (o := ⟨some 29, _, _, _, _, _⟩) rfl (fun K hK => ?_) AllReadyH.nil
              rw [if_pos (by kernel_rfl)]
              go_simp
              go_at_call 35; refine (HDR.out _ (HG.out _ hk2)).mono ?_; rintro e wq3 ⟨bd, od, cd, rfl, hpd0, hb⟩
              have hk3 := hk2.trans (hb.mono hk2.size)
              have q1 := hk2.size
              have q2 := HSW.out
              have q3 := heap_lt hEb
              have q4 := heap_lt hWb
              have hpd : PlsIn (fun b => (b < w.heap.size ∨ w6.heap.size ≤ b) ∧ b ≠ E ∧ b ≠ Wb) wq3 (.slice (some ⟨bd, od, none⟩) d.length cd) d := hpd0.mono fun b hbl hF => by omega
              clear q1 q2 q3 q4
              have hEb := keep_block hEb hb
              have hWb := keep_block hWb hb
              refine hK.out _ _ ?_ (fun hHeld => ?_)
              · exact HS2.out _ hk3
              clear hK K
              (try simp only [Act.put, List.setIfInBounds_toArray, List.set_cons_zero, List.set_cons_succ])
              clear hb hpd0
              refine wpAnyH_ready (rs := [12]) (by kernel_rfl) (by simp) ?_
              refine AllReadyH.cons (o := ⟨some 39, _, _, _, _, _⟩) rfl (fun K hK => ?_) AllReadyH.nil
              obtain ⟨vA, wq4, hrA, hpA0, hb0, hbe⟩ := app_pcs wq3 E hEb (.slice AX z.ps.length dX) z.ps (HPX.out _ hk3) HZL.out
              obtain ⟨AA, dA, hvA⟩ := hpA0.form
              subst hvA
              have hk4 := hk3.trans (hb0.mono hElo)
              have q1 := hk3.size
              have q2 := HSW.out
              have q3 := heap_lt hEb
              have q4 := heap_lt hWb
              have hpA : PcsIn (fun b => (b < w.heap.size ∨ w6.heap.size ≤ b) ∧ b ≠ Wb) wq4 (.slice AA z.ps.length dA) z.ps := hpA0.mono fun b hbl hF => by omega
              have hpd := hpd.keepF (hsz16 hb0 hbe) fun b hbl hF => hbe b hbl (by omega)
              have hpd : PlsIn (fun b => (b < w.heap.size ∨ w6.heap.size ≤ b) ∧ b ≠ Wb) wq4 (.slice (some ⟨bd, od, none⟩) d.length cd) d := hpd.mono fun b hbl hF => by omega
              have hWb := (hbe Wb (heap_lt hWb) (Ne.symm hEW)).trans hWb
              clear q1 q2 q3 q4
              refine step_append_run16 rfl _ _ 31 31 rfl _ _ (by simp [Act.eval, Act.put]) (by simp [Act.eval, Act.put]) hrA ?_
              refine hK.out _ _ ?_ (fun hHeld => ?_)
              · exact HS2.out _ hk4
              clear hK K
              (try simp only [Act.put, List.setIfInBounds_toArray, List.set_cons_zero, List.set_cons_succ])
              clear hb0 hbe hpA0 hrA hEb
              refine wpAnyH_take (i := 13) (oi := ⟨some 40, _, _, _, _, _⟩) (v := ?_) rfl (by kernel_rfl) (by kernel_rfl) (by kernel_rfl) (fun _ _ _ h => h) (Or.inl ⟨by kernel_rfl, ?_⟩) (by assumption) ?_
              rotate_left
              · (intro w hSw; (try dsimp only at hSw); go_simp; try with_reducible rfl)
              (try simp only [Act.put, List.setIfInBounds_toArray, List.set_cons_zero, List.set_cons_succ])
              refine wpAnyH_ready (rs := [14]) (by kernel_rfl) (by simp) ?_
              refine AllReadyH.cons (o := ⟨some 41, _, _, _, _, _⟩) rfl (fun K hK => ?_) AllReadyH.nil
              rw [if_pos (by kernel_rfl)]
              go_simp
              go_at_call 34; refine (HRP.out (fun b => (b < w.heap.size ∨ w6.heap.size ≤ b) ∧ b ≠ Wb) _ _ _ (hpd.mono fun b hbl hF => by omega) hpA).mono ?_; rintro e wq5 ⟨vw, rfl, hpW0, hb⟩
              obtain ⟨Aw, cw, hvw, _, _⟩ := hpW0.form
              subst hvw
              have hk5 := hk4.trans (hb.mono hk4.size)
              have q1 := hk4.size
              have q4 := heap_lt hWb
              have hpW : PlsIn (fun b => (b < w.heap.size ∨ w6.heap.size ≤ b) ∧ b ≠ Wb) wq5 (.slice Aw l.length cw) l := hpW0.mono fun b hbl hF => by omega
              clear q1 q4
              have hWb := keep_block hWb hb
              refine hK.out _ _ ?_ (fun hHeld => ?_)
              · exact HS2.out _ hk5
              clear hK K
              (try simp only [Act.put, List.setIfInBounds_toArray, List.set_cons_zero, List.set_cons_succ])
              clear hb hpW0 hpA hpd
              refine wpAnyH_ready (rs := [16]) (by kernel_rfl) (by simp) ?_
              refine AllReadyH.cons (o := ⟨none, _, _, _, _, _⟩) rfl (fun K hK => ?_) AllReadyH.nil
              refine step_store_row16 rfl _ _ _ rfl Wb #[.int .i64 f, .int .u32 m, .slice Aw l.length cw] (by simp [Act.eval, Act.put]) (by simp [Act.eval, Act.put]) 25 _ hWb (Try.sizePn _ _ _) rfl (one3 _ _ _ _ _) ?_
              have hk6 := below_row hk5 hWlo #[.int .i64 f, .int .u32 m, .slice Aw l.length cw]
              refine hK.out _ _ ?_ (fun hHeld => ?_)
              · exact HS2.out _ hk6
              clear hK K
              (try simp only [Act.put, List.setIfInBounds_toArray, List.set_cons_zero, List.set_cons_succ])
              refine wpAnyH_done (by kernel_rfl) ?_ _
              go_wp2_with fail
              go_meet
              exact ⟨Wb, cw, Aw, rfl, hWlo, setRow_heap _ _ _ _ _ _ hWb, (PlsIn.setRow hpW (.inl fun h => h.2 rfl)).mono fun b _ h => h.1, hk6⟩
          · obtain ⟨wq1, Wb, hwW, hW, hWl, hb, hWb⟩ := box_any w6.drew #[.int .i64 0, .int .u32 0, .slice none 0 0] 25
            have hk1 := hk0.trans (hb.mono hk0.size)
            have q1 := hk0.size
            have q2 := HSW.out
            have hWlo : w6.heap.size ≤ Wb := by omega
            clear q1 q2
            rw [if_pos (by kernel_rfl)]
            go_simp
            refine hK.out _ _ ?_ (fun hHeld => ?_)
            · exact HS2.out _ hk1
            clear hK K
            (try simp only [Act.put, List.setIfInBounds_toArray, List.set_cons_zero, List.set_cons_succ])
            clear hb hwW hW hWl
            refine wpAnyH_ready (rs := [2, 9]) (by kernel_rfl) (by simp) ?_
            refine AllReadyH.cons (o := ⟨some 29, _, _, _, _, _⟩) rfl (fun K hK => ?_) (AllReadyH.cons (o := ⟨some 36, _, _, _, _, _⟩) rfl (fun K hK => ?_) AllReadyH.nil)
            · rw [if_pos (by kernel_rfl)]
              go_simp
              go_at_call 35; refine (HDR.out _ (HG.out _ hk1)).mono ?_; rintro e wq2 ⟨bd, od, cd, rfl, hpd0, hb⟩
              have hk2 := hk1.trans (hb.mono hk1.size)
              have q1 := hk1.size
              have q2 := HSW.out
              have q4 := heap_lt hWb
              have hpd : PlsIn (fun b => (b < w.heap.size ∨ w6.heap.size ≤ b) ∧ b ≠ Wb) wq2 (.slice (some ⟨bd, od, none⟩) d.length cd) d := hpd0.mono fun b hbl hF => by omega
              clear q1 q2 q4
              have hWb := keep_block hWb hb
              refine hK.out _ _ ?_ (fun hHeld => ?_)
              · exact HS2.out _ hk2
              clear hK K
              (try simp only [Act.put, List.setIfInBounds_toArray, List.set_cons_zero, List.set_cons_succ])
              clear hb hpd0
              refine wpAnyH_ready (rs := [9]) (by kernel_rfl) (by simp) ?_
              refine AllReadyH.cons (o := ⟨some 36, _, _, _, _, _⟩) rfl (fun K hK => ?_) AllReadyH.nil
              obtain ⟨wq3, E, hwE, hE, hEl, hb, hEb⟩ := box_any wq2 #[] 54
              have hk3 := hk2.trans (hb.mono hk2.size)
              have q1 := hk2.size
              have q2 := HSW.out
              have q4 := heap_lt hWb
              have hElo : w6.heap.size ≤ E := by omega
              have hEW : E ≠ Wb := by omega
              have hpd : PlsIn (fun b => (b < w.heap.size ∨ w6.heap.size ≤ b) ∧ b ≠ E ∧ b ≠ Wb) wq2 (.slice (some ⟨bd, od, none⟩) d.length cd) d := hpd.mono fun b hbl hF => by omega
              clear q1 q2 q4
              have hpd := hpd.keep hb
              have hWb := keep_block hWb hb
              rw [if_pos (by kernel_rfl)]
              go_simp
              refine hK.out _ _ ?_ (fun hHeld => ?_)
              · exact HS2.out _ hk3
              clear hK K
              (try simp only [Act.put, List.setIfInBounds_toArray, List.set_cons_zero, List.set_cons_succ])
              clear hb hwE hE hEl
              refine wpAnyH_ready (rs := [12]) (by kernel_rfl) (by simp) ?_
              refine AllReadyH.cons (o := ⟨some 39, _, _, _, _, _⟩) rfl (fun K hK => ?_) AllReadyH.nil
              obtain ⟨vA, wq4, hrA, hpA0, hb0, hbe⟩ := app_pcs wq3 E hEb (.slice AX z.ps.length dX) z.ps (HPX.out _ hk3) HZL.out
              obtain ⟨AA, dA, hvA⟩ := hpA0.form
              subst hvA
              have hk4 := hk3.trans (hb0.mono hElo)
              have q1 := hk3.size
              have q2 := HSW.out
              have q3 := heap_lt hEb
              have q4 := heap_lt hWb
              have hpA : PcsIn (fun b => (b < w.heap.size ∨ w6.heap.size ≤ b) ∧ b ≠ Wb) wq4 (.slice AA z.ps.length dA) z.ps := hpA0.mono fun b hbl hF => by omega
              have hpd := hpd.keepF (hsz16 hb0 hbe) fun b hbl hF => hbe b hbl (by omega)
              have hpd : PlsIn (fun b => (b < w.heap.size ∨ w6.heap.size ≤ b) ∧ b ≠ Wb) wq4 (.slice (some ⟨bd, od, none⟩) d.length cd) d := hpd.mono fun b hbl hF => by omega
              have hWb := (hbe Wb (heap_lt hWb) (Ne.symm hEW)).trans hWb
              clear q1 q2 q3 q4
              refine step_append_run16 rfl _ _ 31 31 rfl _ _ (by simp [Act.eval, Act.put]) (by simp [Act.eval, Act.put]) hrA ?_
              refine hK.out _ _ ?_ (fun hHeld => ?_)
              · exact HS2.out _ hk4
              clear hK K
              (try simp only [Act.put, List.setIfInBounds_toArray, List.set_cons_zero, List.set_cons_succ])
              clear hb0 hbe hpA0 hrA hEb
              refine wpAnyH_take (i := 13) (oi := ⟨some 40, _, _, _, _, _⟩) (v := ?_) rfl (by kernel_rfl) (by kernel_rfl) (by kernel_rfl) (fun _ _ _ h => h) (Or.inl ⟨by kernel_rfl, ?_⟩) (by assumption) ?_
              rotate_left
              · (intro w hSw; (try dsimp only at hSw); go_simp; try with_reducible rfl)
              (try simp only [Act.put, List.setIfInBounds_toArray, List.set_cons_zero, List.set_cons_succ])
              refine wpAnyH_ready (rs := [14]) (by kernel_rfl) (by simp) ?_
              refine AllReadyH.cons (o := ⟨some 41, _, _, _, _, _⟩) rfl (fun K hK => ?_) AllReadyH.nil
              rw [if_pos (by kernel_rfl)]
              go_simp
              go_at_call 34; refine (HRP.out (fun b => (b < w.heap.size ∨ w6.heap.size ≤ b) ∧ b ≠ Wb) _ _ _ (hpd.mono fun b hbl hF => by omega) hpA).mono ?_; rintro e wq5 ⟨vw, rfl, hpW0, hb⟩
              obtain ⟨Aw, cw, hvw, _, _⟩ := hpW0.form
              subst hvw
              have hk5 := hk4.trans (hb.mono hk4.size)
              have q1 := hk4.size
              have q4 := heap_lt hWb
              have hpW : PlsIn (fun b => (b < w.heap.size ∨ w6.heap.size ≤ b) ∧ b ≠ Wb) wq5 (.slice Aw l.length cw) l := hpW0.mono fun b hbl hF => by omega
              clear q1 q4
              have hWb := keep_block hWb hb
              refine hK.out _ _ ?_ (fun hHeld => ?_)
              · exact HS2.out _ hk5
              clear hK K
              (try simp only [Act.put, List.setIfInBounds_toArray, List.set_cons_zero, List.set_cons_succ])
              clear hb hpW0 hpA hpd
              refine wpAnyH_ready (rs := [16]) (by kernel_rfl) (by simp) ?_
              refine AllReadyH.cons (o := ⟨none, _, _, _, _, _⟩) rfl (fun K hK => ?_) AllReadyH.nil
              refine step_store_row16 rfl _ _ _ rfl Wb #[.int .i64 f, .int .u32 m, .slice Aw l.length cw] (by simp [Act.eval, Act.put]) (by simp [Act.eval, Act.put]) 25 _ hWb (Try.sizePn _ _ _) rfl (one3 _ _ _ _ _) ?_
              have hk6 := below_row hk5 hWlo #[.int .i64 f, .int .u32 m, .slice Aw l.length cw]
              refine hK.out _ _ ?_ (fun hHeld => ?_)
              · exact HS2.out _ hk6
              clear hK K
              (try simp only [Act.put, List.setIfInBounds_toArray, List.set_cons_zero, List.set_cons_succ])
              refine wpAnyH_done (by kernel_rfl) ?_ _
              go_wp2_with fail
              go_meet
              exact ⟨Wb, cw, Aw, rfl, hWlo, setRow_heap _ _ _ _ _ _ hWb, (PlsIn.setRow hpW (.inl fun h => h.2 rfl)).mono fun b _ h => h.1, hk6⟩
            · obtain ⟨wq2, E, hwE, hE, hEl, hb, hEb⟩ := box_any wq1 #[] 54
              have hk2 := hk1.trans (hb.mono hk1.size)
              have q1 := hk1.size
              have q2 := HSW.out
              have q4 := heap_lt hWb
              have hElo : w6.heap.size ≤ E := by omega
              have hEW : E ≠ Wb := by omega
              clear q1 q2 q4
              have hWb := keep_block hWb hb
              rw [if_pos (by kernel_rfl)]
              go_simp
              refine hK.out _ _ ?_ (fun hHeld => ?_)
              · exact HS2.out _ hk2
              clear hK K
              (try simp only [Act.put, List.setIfInBounds_toArray, List.set_cons_zero, List.set_cons_succ])
              clear hb hwE hE hEl
              refine wpAnyH_ready (rs := [2]) (by kernel_rfl) (by simp) ?_
              refine AllReadyH.cons (o := ⟨some 29, _, _, _, _, _⟩) rfl (fun K hK => ?_) AllReadyH.nil
              rw [if_pos (by kernel_rfl)]
              go_simp
              go_at_call 35; refine (HDR.out _ (HG.out _ hk2)).mono ?_; rintro e wq3 ⟨bd, od, cd, rfl, hpd0, hb⟩
              have hk3 := hk2.trans (hb.mono hk2.size)
              have q1 := hk2.size
              have q2 := HSW.out
              have q3 := heap_lt hEb
              have q4 := heap_lt hWb
              have hpd : PlsIn (fun b => (b < w.heap.size ∨ w6.heap.size ≤ b) ∧ b ≠ E ∧ b ≠ Wb) wq3 (.slice (some ⟨bd, od, none⟩) d.length cd) d := hpd0.mono fun b hbl hF => by omega
              clear q1 q2 q3 q4
              have hEb := keep_block hEb hb
              have hWb := keep_block hWb hb
              refine hK.out _ _ ?_ (fun hHeld => ?_)
              · exact HS2.out _ hk3
              clear hK K
              (try simp only [Act.put, List.setIfInBounds_toArray, List.set_cons_zero, List.set_cons_succ])
              clear hb hpd0
              refine wpAnyH_ready (rs := [12]) (by kernel_rfl) (by simp) ?_
              refine AllReadyH.cons (o := ⟨some 39, _, _, _, _, _⟩) rfl (fun K hK => ?_) AllReadyH.nil
              obtain ⟨vA, wq4, hrA, hpA0, hb0, hbe⟩ := app_pcs wq3 E hEb (.slice AX z.ps.length dX) z.ps (HPX.out _ hk3) HZL.out
              obtain ⟨AA, dA, hvA⟩ := hpA0.form
              subst hvA
              have hk4 := hk3.trans (hb0.mono hElo)
              have q1 := hk3.size
              have q2 := HSW.out
              have q3 := heap_lt hEb
              have q4 := heap_lt hWb
              have hpA : PcsIn (fun b => (b < w.heap.size ∨ w6.heap.size ≤ b) ∧ b ≠ Wb) wq4 (.slice AA z.ps.length dA) z.ps := hpA0.mono fun b hbl hF => by omega
              have hpd := hpd.keepF (hsz16 hb0 hbe) fun b hbl hF => hbe b hbl (by omega)
              have hpd : PlsIn (fun b => (b < w.heap.size ∨ w6.heap.size ≤ b) ∧ b ≠ Wb) wq4 (.slice (some ⟨bd, od, none⟩) d.length cd) d := hpd.mono fun b hbl hF => by omega
              have hWb := (hbe Wb (heap_lt hWb) (Ne.symm hEW)).trans hWb
              clear q1 q2 q3 q4
              refine step_append_run16 rfl _ _ 31 31 rfl _ _ (by simp [Act.eval, Act.put]) (by simp [Act.eval, Act.put]) hrA ?_
              refine hK.out _ _ ?_ (fun hHeld => ?_)
              · exact HS2.out _ hk4
              clear hK K
              (try simp only [Act.put, List.setIfInBounds_toArray, List.set_cons_zero, List.set_cons_succ])
              clear hb0 hbe hpA0 hrA hEb
              refine wpAnyH_take (i := 13) (oi := ⟨some 40, _, _, _, _, _⟩) (v := ?_) rfl (by kernel_rfl) (by kernel_rfl) (by kernel_rfl) (fun _ _ _ h => h) (Or.inl ⟨by kernel_rfl, ?_⟩) (by assumption) ?_
              rotate_left
              · (intro w hSw; (try dsimp only at hSw); go_simp; try with_reducible rfl)
              (try simp only [Act.put, List.setIfInBounds_toArray, List.set_cons_zero, List.set_cons_succ])
              refine wpAnyH_ready (rs := [14]) (by kernel_rfl) (by simp) ?_
              refine AllReadyH.cons (o := ⟨some 41, _, _, _, _, _⟩) rfl (fun K hK => ?_) AllReadyH.nil
              rw [if_pos (by kernel_rfl)]
              go_simp
              go_at_call 34; refine (HRP.out (fun b => (b < w.heap.size ∨ w6.heap.size ≤ b) ∧ b ≠ Wb) _ _ _ (hpd.mono fun b hbl hF => by omega) hpA).mono ?_; rintro e wq5 ⟨vw, rfl, hpW0, hb⟩
              obtain ⟨Aw, cw, hvw, _, _⟩ := hpW0.form
              subst hvw
              have hk5 := hk4.trans (hb.mono hk4.size)
              have q1 := hk4.size
              have q4 := heap_lt hWb
              have hpW : PlsIn (fun b => (b < w.heap.size ∨ w6.heap.size ≤ b) ∧ b ≠ Wb) wq5 (.slice Aw l.length cw) l := hpW0.mono fun b hbl hF => by omega
              clear q1 q4
              have hWb := keep_block hWb hb
              refine hK.out _ _ ?_ (fun hHeld => ?_)
              · exact HS2.out _ hk5
              clear hK K
              (try simp only [Act.put, List.setIfInBounds_toArray, List.set_cons_zero, List.set_cons_succ])
              clear hb hpW0 hpA hpd
              refine wpAnyH_ready (rs := [16]) (by kernel_rfl) (by simp) ?_
              refine AllReadyH.cons (o := ⟨none, _, _, _, _, _⟩) rfl (fun K hK => ?_) AllReadyH.nil
              refine step_store_row16 rfl _ _ _ rfl Wb #[.int .i64 f, .int .u32 m, .slice Aw l.length cw] (by simp [Act.eval, Act.put]) (by simp [Act.eval, Act.put]) 25 _ hWb (Try.sizePn _ _ _) rfl (one3 _ _ _ _ _) ?_
              have hk6 := below_row hk5 hWlo #[.int .i64 f, .int .u32 m, .slice Aw l.length cw]
              refine hK.out _ _ ?_ (fun hHeld => ?_)
              · exact HS2.out _ hk6
              clear hK K
              (try simp only [Act.put, List.setIfInBounds_toArray, List.set_cons_zero, List.set_cons_succ])
              refine wpAnyH_done (by kernel_rfl) ?_ _
              go_wp2_with fail
              go_meet
              exact ⟨Wb, cw, Aw, rfl, hWlo, setRow_heap _ _ _ _ _ _ hWb, (PlsIn.setRow hpW (.inl fun h => h.2 rfl)).mono fun b _ h => h.1, hk6⟩
        case rest =>
          obtain ⟨Wb, cw, Aw, rfl, hWlo, hWb, hpW, hkw⟩ := hcut
          have HKW := Lib.hid hkw
          have HWB := Lib.hid hWb
          have HPW := Lib.hid hpW
          obtain ⟨a0, a1, a2, x0, x1, x2, x3⟩ := HS2.out _ hkw
          clear hWb hpW hkw hk0
          go_wp2_with fail
          refine (HPP.out _ (HG.out _ HKW.out) _ (HPX.out _ HKW.out)).mono ?_
          rintro e w8 ⟨vq, rfl, hpq, hb8⟩
          obtain ⟨Aq, cq, hvq, _, _⟩ := hpq.form
          subst hvq
          obtain ⟨w9, Q, hw9, hQ, hQl, hb9, hqbox⟩ := box_any w8 #[.int .i64 0, .int .u32 0, .slice none 0 0] 25
          have hs8 := hb8.size
          have hsc := HKW.out.size
          have hWbl := heap_lt HWB.out
          have HK8 := Lib.hid (HKW.out.trans (hb8.mono HKW.out.size))
          have HK9 := Lib.hid (HK8.out.trans (hb9.mono HK8.out.size))
          have HQX := Lib.hid hqbox
          obtain ⟨w10, hw10⟩ : ∃ w10, w9.setRow Q #[.int .i64 f, .int .u32 m, .slice Aq l.length cq] = w10 := ⟨_, rfl⟩
          have HK10 : Hid (Below w6.heap.size w6 w10) := Lib.hid (by rw [← hw10]; exact below_row HK9.out (by omega) _)
          have HPQ : Hid (PlsIn (fun b => wc.heap.size ≤ b) w10 (.slice Aq l.length cq) l) := Lib.hid (by
            rw [← hw10]
            exact (PlsIn.setRow ((hpq.ne (Nat.le_of_eq hQ)).keep hb9) (.inl fun h => h.2 rfl)).mono fun b _ h => h.1)
          have HPW10 : Hid (PlsIn (fun b => b < w.heap.size ∨ w6.heap.size ≤ b) w10 (.slice Aw l.length cw) l) := Lib.hid (by
            rw [← hw10]
            exact (PlsIn.setRow (((HPW.out.keep hb8).ne (Nat.le_of_eq hQ)).keep hb9) (.inl fun h => h.2 rfl)).mono fun b _ h => h.1)
          have HQB : Hid (w10.heap[Q]? = some (.cells #[.int .i64 f, .int .u32 m, .slice Aq l.length cq] 25 (0, 0))) := Lib.hid (by rw [← hw10]; exact setRow_heap _ _ _ _ _ _ HQX.out)
          have HWB10 : Hid (w10.heap[Wb]? = some (.cells #[.int .i64 f, .int .u32 m, .slice Aw l.length cw] 25 (0, 0))) := Lib.hid (by
            rw [← hw10]
            exact (setRow_other _ _ _ _ (by omega)).trans (keep_block (keep_block HWB.out hb8) hb9))
          have HBW6 := Lib.hid (HB1.out.trans (HK6.out.mono HB1.out.size))
          clear a0 a1 a2 x0 x1 x2 x3 hpq hb8 hb9 hqbox
          obtain ⟨a0, a1, a2, x0, x1, x2, x3⟩ := HS2.out _ HK10.out
          by_cases hn0 : z.ps.length = 0
          · have hgt : decide ((0 : Int) < (z.ps.length : Int)) = false := decide_eq_false (by omega)
            obtain ⟨b0, b1, b2⟩ := three_heads HWB10.out
            obtain ⟨d0, d1, d2⟩ := three_heads HQB.out
            have hp10 : PlsAt w10 v l := (HOW.out _ (HG.out _ HK10.out)).any
            have hw10' := HPW10.out.any
            have hq10' := HPQ.out.any
            have hWB' := HWB10.out
            have hQB' := HQB.out
            have hbW := HBW6.out.trans (HK10.out.mono HSW.out)
            go_wp2_with (refine wpList_store_row rfl _ _ _ rfl Q #[.int .i64 f, .int .u32 m, .slice Aq l.length cq] rfl rfl 25 _ HQX.out (Try.sizePn _ _ _) rfl (one3 _ _ _ _ _) ?_)
            refine (HSM.out _ _ _ hp10 hw10').mono ?_
            rintro e w12 ⟨rfl, hb12⟩
            have hbW := hbW.trans (hb12.mono hbW.size)
            have hw12 := hw10'.keep hb12
            have hq12 := hq10'.keep hb12
            obtain ⟨e0, e1, e2⟩ := three_heads (keep_block hWB' hb12)
            obtain ⟨g0, g1, g2⟩ := three_heads (keep_block hQB' hb12)
            clear hb12 d0 d1 d2 b0 b1 b2
            go_wp2_with fail
            refine (HSM.out _ _ _ hq12 hw12).mono ?_
            rintro e w13 ⟨rfl, hb13⟩
            have hbW := hbW.trans (hb13.mono hbW.size)
            clear hb13 e0 e1 e2 g0 g1 g2
            go_wp2_with fail
            refine (HAW.out _).mono ?_
            rintro e w14 ⟨rfl, hb14⟩
            have hbW := hbW.trans (hb14.mono hbW.size)
            go_wp2_with fail
            go_ret
            exact ⟨rfl, hbW⟩
          · have hgt : (0 : Int) < (z.ps.length : Int) := by omega
            obtain ⟨y0, hy0⟩ := exP_at (xs := z.ps) (k := 0) (by omega)
            obtain ⟨bx, ox, hAX, hbx, ⟨hbx3, cs, ty, hsoft⟩, hc0, hc1⟩ := HOWN.out.at_ hy0
            subst hAX
            have q1 := HS34.out
            have q2 := HS46.out
            have q3 := HSW.out
            have q4 := HSZ3.out
            have q5 := HB1.out.size
            have hbe : w10.heap[bx]? = w4.heap[bx]? := (HK10.out.block bx (by omega)).trans (HX46.out bx hbx)
            have hcx : w10.cell? ⟨bx, ox + 1, none⟩ = some (.int .u64 y0.t) := by
              rw [cell_same hbe]
              simpa using hc1
            have hfr : w10.frozen? ⟨bx, ox + 1, none⟩ = false := by
              have e := hbe.trans hsoft
              simp [World.frozen?, e]
            obtain ⟨w11, hw11⟩ : ∃ w11, w10.setCell ⟨bx, ox + 1, none⟩ (.int .u64 0) = w11 := ⟨_, rfl⟩
            have hoth : ∀ b, b ≠ bx → w11.heap[b]? = w10.heap[b]? := fun b hb => by rw [← hw11]; exact Below.heap_setCell _ _ _ _ hb
            have hs11 : w10.heap.size ≤ w11.heap.size := by rw [← hw11]; simp [World.setCell]
            have hp10 : PlsAt w11 v l := ((HOW.out _ (HG.out _ HK10.out)).keepF hs11 fun b _ hF => hoth b (by omega)).any
            have hw10' : PlsAt w11 (.slice Aw l.length cw) l := (HPW10.out.keepF hs11 fun b _ hF => hoth b (by omega)).any
            have hq10' : PlsAt w11 (.slice Aq l.length cq) l := (HPQ.out.keepF hs11 fun b _ hF => hoth b (by omega)).any
            have hWB' := (hoth Wb (by omega)).trans HWB10.out
            have hQB' := (hoth Q (by omega)).trans HQB.out
            have hbW : Below w.heap.size w w11 := by rw [← hw11]; exact (HBW6.out.trans (HK10.out.mono HSW.out)).setCell (p := ⟨bx, ox + 1, none⟩) (show w.heap.size ≤ bx by omega) _
            obtain ⟨b0, b1, b2⟩ := three_heads hWB'
            obtain ⟨d0, d1, d2⟩ := three_heads hQB'
            have f0 := (cell_same (hoth P (by omega)) 0).trans a0
            have f1 := (cell_same (hoth P (by omega)) 1).trans a1
            have f2 := (cell_same (hoth P (by omega)) 2).trans a2
            clear hc0 hc1 hsoft hbe
            go_wp2_with (refine wpList_store_row rfl _ _ _ rfl Q #[.int .i64 f, .int .u32 m, .slice Aq l.length cq] rfl rfl 25 _ HQX.out (Try.sizePn _ _ _) rfl (one3 _ _ _ _ _) ?_)
            refine (HSM.out _ _ _ hp10 hw10').mono ?_
            rintro e w12 ⟨rfl, hb12⟩
            have hbW := hbW.trans (hb12.mono hbW.size)
            have hw12 := hw10'.keep hb12
            have hq12 := hq10'.keep hb12
            obtain ⟨e0, e1, e2⟩ := three_heads (keep_block hWB' hb12)
            obtain ⟨g0, g1, g2⟩ := three_heads (keep_block hQB' hb12)
            clear hb12 d0 d1 d2 b0 b1 b2
            go_wp2_with fail
            refine (HSM.out _ _ _ hq12 hw12).mono ?_
            rintro e w13 ⟨rfl, hb13⟩
            have hbW := hbW.trans (hb13.mono hbW.size)
            clear hb13 e0 e1 e2 g0 g1 g2
            go_wp2_with fail
            refine (HAW.out _).mono ?_
            rintro e w14 ⟨rfl, hb14⟩
            have hbW := hbW.trans (hb14.mono hbW.size)
            go_wp2_with fail
            go_ret
            exact ⟨rfl, hbW⟩
    · have HYL := Lib.hid (fun W hk => (HLI.out W hk).1 hlit)
      have HNR := Lib.hid (fun W hk => (HRI.out hL W hk).2 hr)
      clear HRI HLI hlit hr
      go_enter Try.func6, Try.ntmps6
      go_wp2_with fail
      refine (HYL.out _ HK1.out).mono ?_
      rintro e w2 ⟨rfl, hb2⟩
      have HK2 := Lib.hid (HK1.out.trans (hb2.mono HK1.out.size))
      clear hb2
      clear r0 r1 r2
      obtain ⟨r0, r1, r2⟩ := HS.out _ HK2.out
      go_wp2_with fail
      refine (HNR.out _ HK2.out).mono ?_
      rintro e w3 ⟨rfl, hb3⟩
      have HK3 := Lib.hid (HK2.out.trans (hb3.mono HK2.out.size))
      clear hb3
      clear r0 r1 r2
      go_wp2_with fail
      refine (HAW.out _).mono ?_
      rintro e w4 ⟨rfl, hb4⟩
      have HK4 := Lib.hid (HK3.out.trans (hb4.mono HK3.out.size))
      clear hb4
      go_wp2_with fail
      go_ret
      exact ⟨rfl, HB1.out.trans (HK4.out.mono HB1.out.size)⟩
  · have HNL := Lib.hid (fun W hk => (HLI.out W hk).2 hlit)
    clear HRI hlit
    go_enter Try.func6, Try.ntmps6
    go_wp2_with fail
    refine (HNL.out _ HK1.out).mono ?_
    rintro e w2 ⟨rfl, hb2⟩
    have HK2 := Lib.hid (HK1.out.trans (hb2.mono HK1.out.size))
    clear hb2
    go_wp2_with fail
    refine (HAW.out _).mono ?_
    rintro e w3 ⟨rfl, hb3⟩
    have HK3 := Lib.hid (HK2.out.trans (hb3.mono HK2.out.size))
    clear hb3
    go_wp2_with fail
    go_ret
    exact ⟨rfl, HB1.out.trans (HK3.out.mono HB1.out.size)⟩
end Go.Proofs.Ytpblfonkcibagaa
