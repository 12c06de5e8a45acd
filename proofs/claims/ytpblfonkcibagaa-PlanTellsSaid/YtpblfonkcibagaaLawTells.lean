/-
  The law of telling: PlanTells.
  Conditions: the slice reads as places; the numbers are of their kinds.
-/
import Derived.Test.YtpblfonkcibagaaAwake
import Derived.Test.YtpblfonkcibagaaLight
import Derived.Test.YtpblfonkcibagaaAlike
import Derived.Test.YtpblfonkcibagaaSameI
import Derived.Test.YtpblfonkcibagaaBalance
import Derived.Test.YtpblfonkcibagaaSame
set_option linter.unusedVariables false
namespace Go.Proofs.Ytpblfonkcibagaa
open Go.RowKit

theorem findU_mem {l : List Pl} {u : Int} {x : Pl} (h : findU l u = some x) : x ∈ l := List.mem_of_find?_eq_some h
set_option maxRecDepth 100000 in
set_option maxHeartbeats 8000000 in
theorem tells_law (f : Int) (m : Nat) (v : Value) (l : List Pl) (u : Int) (w : World) (h : PlsAt w v l) (ho : ∀ x ∈ l, PlOk x) (hm : m < 4294967296) :
    Calls Try.prog 4 #[planA f m v, .int .i64 u] w (RetB (.bool true) w) := by
  obtain ⟨w1, P, hw1, hP, hPl, hb1, hbox⟩ := box_any w #[.int .i64 f, .int .u32 m, v] 25
  have HB1 := Lib.hid hb1
  have HH : Hid (∀ W, Below w1.heap.size w1 W → PlsAt W v l) := Lib.hid (fun W hk => h.keep (HB1.out.trans (hk.mono HB1.out.size)))
  have HS : Hid (∀ W, Below w1.heap.size w1 W → W.cell? ⟨P, 0, none⟩ = some (.int .i64 f) ∧ W.cell? ⟨P, 1, none⟩ = some (.int .u32 m) ∧ W.cell? ⟨P, 2, none⟩ = some v) := Lib.hid (fun W hk => three_heads (keep_block hbox hk))
  have HLI := Lib.hid (fun W (hk : Below w1.heap.size w1 W) => calls_iff (light_any f m v l W (HH.out W hk)))
  have HRI := Lib.hid (fun (hL : LightL l) W (hk : Below w1.heap.size w1 W) => calls_iff (right_any f m v l W (HH.out W hk) hL hm))
  have HAW := Lib.hid (fun W => awake_any W)
  have HK1 := Lib.hid (Below.refl w1.heap.size w1)
  unfold planA at HLI HRI ⊢
  obtain ⟨r0, r1, r2⟩ := HS.out _ HK1.out
  clear h hb1 hbox
  have mixed : Try.prog.follows .mixedOrders = true := by kernel_rfl
  by_cases hlit : Lit l
  · have hL := hlit.light ho
    by_cases hr : Right f m l
    · have hl : l.length ≤ 1000 := by have := hL.len; omega
      have HFI := Lib.hid (fun W (hk : Below w1.heap.size w1 W) => find_any f m v l u W (HH.out W hk) hl (fun x hx => (hL.ok x hx).2))
      have HFR := Lib.hid (fun W (hk : Below w1.heap.size w1 W) => refFind_any f m v l u W (HH.out W hk) hl)
      have HCO := Lib.hid (fun W => cores_any f m v W hm)
      rw [ticks_top hr.m16] at HCO
      have HCR := Lib.hid (fun W => refCores_any f m v W hm)
      have HSI := Lib.hid (fun a b W h1 h2 => sameI_any (ticksI m 16) a b W h1 h2)
      generalize ticksI m 16 = cs at HCO HCR HSI
      have HWA := Lib.hid (fun W (hk : Below w1.heap.size w1 W) => wants_any f m v l W (HH.out W hk) hl)
      have HWR := Lib.hid (fun W (hk : Below w1.heap.size w1 W) => refWants_any f m v l W (HH.out W hk) hl)
      have HSS := Lib.hid (fun a b W h1 h2 => same_any a b (wantsT l) W h1 h2)
      generalize wantsT l = ws at HWA HWR HSS
      have HSP := Lib.hid (fun W (hk : Below w1.heap.size w1 W) => splits_any f m v l W (HH.out W hk) hl)
      have HSR := Lib.hid (fun W (hk : Below w1.heap.size w1 W) => refSplits_any f m v l W (HH.out W hk) hl)
      generalize splitsN l = sn at HSP HSR
      have HYL := Lib.hid (fun W hk => (HLI.out W hk).1 hlit)
      have HYR := Lib.hid (fun W hk => (HRI.out hL W hk).1 hr)
      generalize findU l u = fo at HFI HFR
      obtain ⟨z, hz⟩ : ∃ z, fo.getD zeroPl = z := ⟨_, rfl⟩
      obtain ⟨ok, hok⟩ : ∃ ok, fo.isSome = ok := ⟨_, rfl⟩
      unfold planA at HFI HFR HCO HCR HWA HWR HSP HSR
      unfold RetFind at HFI HFR
      rw [hz, hok] at HFI HFR
      have HP1 := Lib.hid (show P < w1.heap.size from hPl)
      clear HRI HLI hlit hr hL ho hl hz hok
      go_enter Try.func4, Try.ntmps4
      go_wp2_with fail
      refine (HYL.out _ HK1.out).mono ?_
      rintro e w2 ⟨rfl, hb2⟩
      have HK2 := Lib.hid (HK1.out.trans (hb2.mono HK1.out.size))
      clear hb2
      clear r0 r1 r2
      obtain ⟨r0, r1, r2⟩ := HS.out _ HK2.out
      go_wp2_with fail
      refine (HYR.out _ HK2.out).mono ?_
      rintro e w3 ⟨rfl, hb3⟩
      have HK3 := Lib.hid (HK2.out.trans (hb3.mono HK2.out.size))
      clear hb3
      clear r0 r1 r2
      obtain ⟨r0, r1, r2⟩ := HS.out _ HK3.out
      go_wp2_with fail
      refine (HFI.out _ HK3.out).mono ?_
      rintro e w4 ⟨vx, rfl, hps, hb4⟩
      have HK4 := Lib.hid (HK3.out.trans (hb4.mono HK3.out.size))
      clear hb4
      obtain ⟨AX, dX, hvX⟩ := hps.form
      subst hvX
      have HPSX := Lib.hid (hps.mono (G := fun b => b < w4.heap.size) fun b hb _ => hb)
      clear hps
      obtain ⟨w5, X, hw5, hX, hXl, hb5, hXbox⟩ := box_any w4 #[.int .i64 0, .int .i64 0, .int .i64 0, .slice none 0 0] 33
      have HK5 := Lib.hid (HK4.out.trans (hb5.mono HK4.out.size))
      have HBX := Lib.hid hXbox
      obtain ⟨w6, hw6⟩ : ∃ w6, w5.setRow X #[.int .i64 z.u, .int .i64 z.s, .int .i64 z.c, .slice AX z.ps.length dX] = w6 := ⟨_, rfl⟩
      have HK6 : Hid (Below w1.heap.size w1 w6) := Lib.hid (by rw [← hw6]; exact below_row HK5.out (by have := HK4.out.size; omega) _)
      have HXX : Hid (w6.heap[X]? = some (.cells #[.int .i64 z.u, .int .i64 z.s, .int .i64 z.c, .slice AX z.ps.length dX] 33 (0, 0))) := Lib.hid (by rw [← hw6]; exact setRow_heap _ _ _ _ _ _ HBX.out)
      have HPWX : Hid (PcsAt w6 (.slice AX z.ps.length dX) z.ps) := Lib.hid (by rw [← hw6]; exact (PcsIn.setRow (HPSX.out.keep hb5) (.inl (by omega))).any)
      clear hb5 hXbox r0 r1 r2
      obtain ⟨r0, r1, r2⟩ := HS.out _ HK6.out
      unfold plA
      go_wp2_with (refine wpList_store_row rfl _ _ _ rfl X #[.int .i64 z.u, .int .i64 z.s, .int .i64 z.c, .slice AX z.ps.length dX] rfl rfl 33 _ HBX.out (Try.sizePl _ _ _ _) rfl (one4 _ _ _ _ _ _) ?_)
      refine (HFR.out _ HK6.out).mono ?_
      rintro e w7 ⟨vy, rfl, hps, hb7⟩
      have HK7 := Lib.hid (HK6.out.trans (hb7.mono HK6.out.size))
      have HX7 := Lib.hid (keep_block HXX.out hb7)
      have HPX7 := Lib.hid (HPWX.out.keep hb7)
      clear hb7 hw5 hw6 hX
      obtain ⟨AY, dY, hvY⟩ := hps.form
      subst hvY
      have HPSY := Lib.hid (hps.mono (G := fun b => b < w7.heap.size) fun b hb _ => hb)
      clear hps
      obtain ⟨w8, Y, hw8, hY, hYl, hb8, hYbox⟩ := box_any w7 #[.int .i64 0, .int .i64 0, .int .i64 0, .slice none 0 0] 33
      have HK8 := Lib.hid (HK7.out.trans (hb8.mono HK7.out.size))
      have HBY := Lib.hid hYbox
      obtain ⟨w9, hw9⟩ : ∃ w9, w8.setRow Y #[.int .i64 z.u, .int .i64 z.s, .int .i64 z.c, .slice AY z.ps.length dY] = w9 := ⟨_, rfl⟩
      have HK9 : Hid (Below w1.heap.size w1 w9) := Lib.hid (by rw [← hw9]; exact below_row HK8.out (by have := HK7.out.size; omega) _)
      have HXY : Hid (w9.heap[Y]? = some (.cells #[.int .i64 z.u, .int .i64 z.s, .int .i64 z.c, .slice AY z.ps.length dY] 33 (0, 0))) := Lib.hid (by rw [← hw9]; exact setRow_heap _ _ _ _ _ _ HBY.out)
      have HPWY : Hid (PcsAt w9 (.slice AY z.ps.length dY) z.ps) := Lib.hid (by rw [← hw9]; exact (PcsIn.setRow (HPSY.out.keep hb8) (.inl (by omega))).any)
      clear hb8 hYbox r0 r1 r2
      obtain ⟨r0, r1, r2⟩ := HS.out _ HK9.out
      have HX9 : Hid (w9.heap[X]? = some (.cells #[.int .i64 z.u, .int .i64 z.s, .int .i64 z.c, .slice AX z.ps.length dX] 33 (0, 0))) := Lib.hid (by
        have e := heap_lt HX7.out
        rw [← hw9]
        refine (setRow_other _ _ _ _ (by omega)).trans ?_
        rw [← hw8]
        exact (((Below.refl _ w7).alloc (Nat.le_refl _) _).block X e).trans HX7.out)
      have HPX9 : Hid (PcsAt w9 (.slice AX z.ps.length dX) z.ps) := Lib.hid (by
        rw [← hw9]
        refine (PcsIn.setRow ((HPX7.out.mono (G := fun b => b < w7.heap.size) fun b hb _ => hb).keep (W' := w8) ?_) (.inl (by omega))).any
        rw [← hw8]
        exact (Below.refl _ w7).alloc (Nat.le_refl _) _)
      unfold plA
      go_wp2_with (refine wpList_store_row rfl _ _ _ rfl Y #[.int .i64 z.u, .int .i64 z.s, .int .i64 z.c, .slice AY z.ps.length dY] rfl rfl 33 _ HBY.out (Try.sizePl _ _ _ _) rfl (one4 _ _ _ _ _ _) ?_)
      have HS2 : Hid (∀ W, Below w9.heap.size w9 W → W.cell? ⟨P, 0, none⟩ = some (.int .i64 f) ∧ W.cell? ⟨P, 1, none⟩ = some (.int .u32 m) ∧ W.cell? ⟨P, 2, none⟩ = some (v) ∧ W.cell? ⟨X, 0, none⟩ = some (.int .i64 z.u) ∧ W.cell? ⟨X, 1, none⟩ = some (.int .i64 z.s) ∧ W.cell? ⟨X, 2, none⟩ = some (.int .i64 z.c) ∧ W.cell? ⟨X, 3, none⟩ = some (.slice AX z.ps.length dX) ∧ W.cell? ⟨Y, 0, none⟩ = some (.int .i64 z.u) ∧ W.cell? ⟨Y, 1, none⟩ = some (.int .i64 z.s) ∧ W.cell? ⟨Y, 2, none⟩ = some (.int .i64 z.c) ∧ W.cell? ⟨Y, 3, none⟩ = some (.slice AY z.ps.length dY)) := Lib.hid (fun W hk => by
        obtain ⟨a, b, c⟩ := HS.out W (HK9.out.trans (hk.mono HK9.out.size))
        obtain ⟨x0, x1, x2, x3⟩ := four_heads (keep_block HX9.out hk)
        exact ⟨a, b, c, x0, x1, x2, x3, four_heads (keep_block HXY.out hk)⟩)
      have HG : Hid (∀ W, Below w9.heap.size w9 W → Below w1.heap.size w1 W) := Lib.hid (fun W hk => HK9.out.trans (hk.mono HK9.out.size))
      have HSA := Lib.hid (fun W (hk : Below w9.heap.size w9 W) => refSamePlace_any (.slice AX z.ps.length dX) (.slice AY z.ps.length dY) z z W (HPX9.out.keep hk) (HPWY.out.keep hk))
      have HSB := Lib.hid (fun W (hk : Below w9.heap.size w9 W) => samePlace_any (.slice AX z.ps.length dX) (.slice AY z.ps.length dY) z z W (HPX9.out.keep hk) (HPWY.out.keep hk))
      have ez : decide (z = z) = true := decide_eq_true rfl
      rw [ez] at HSA HSB
      unfold plA at HSA HSB
      have hk0 : Below w9.heap.size w9 w9.drew := (Below.refl _ w9).drew
      obtain ⟨g0, g1, g2, x0, x1, x2, x3, y0, y1, y2, y3⟩ := HS2.out _ (Below.refl _ w9)
      clear r0 r1 r2 hw8 hw9 hY ez
      go_wp2_with fail
      refine wp_region_held_drew (S := fun w' => w'.cell? ⟨P, 0, none⟩ = some (.int .i64 f) ∧ w'.cell? ⟨P, 1, none⟩ = some (.int .u32 m) ∧ w'.cell? ⟨P, 2, none⟩ = some (v) ∧ w'.cell? ⟨X, 0, none⟩ = some (.int .i64 z.u) ∧ w'.cell? ⟨X, 1, none⟩ = some (.int .i64 z.s) ∧ w'.cell? ⟨X, 2, none⟩ = some (.int .i64 z.c) ∧ w'.cell? ⟨X, 3, none⟩ = some (.slice AX z.ps.length dX) ∧ w'.cell? ⟨Y, 0, none⟩ = some (.int .i64 z.u) ∧ w'.cell? ⟨Y, 1, none⟩ = some (.int .i64 z.s) ∧ w'.cell? ⟨Y, 2, none⟩ = some (.int .i64 z.c) ∧ w'.cell? ⟨Y, 3, none⟩ = some (.slice AY z.ps.length dY)) (by kernel_rfl) ?_ (fun hHeld => ?_)
      · exact HS2.out _ hk0
      refine wpAnyH_take (i := 0) (oi := ⟨some 30, _, _, _, _, _⟩) (v := ?_) rfl (by kernel_rfl) (by kernel_rfl) (by kernel_rfl) (fun _ _ _ h => h) (Or.inl ⟨by kernel_rfl, ?_⟩) (by assumption) ?_
      rotate_left
      · (intro w hSw; (try dsimp only at hSw); go_simp; try with_reducible rfl)
      (try simp only [Act.put, List.setIfInBounds_toArray, List.set_cons_zero, List.set_cons_succ])
      refine wpAnyH_take (i := 2) (oi := ⟨some 32, _, _, _, _, _⟩) (v := ?_) rfl (by kernel_rfl) (by kernel_rfl) (by kernel_rfl) (fun _ _ _ h => h) (Or.inl ⟨by kernel_rfl, ?_⟩) (by assumption) ?_
      rotate_left
      · (intro w hSw; (try dsimp only at hSw); go_simp; try with_reducible rfl)
      (try simp only [Act.put, List.setIfInBounds_toArray, List.set_cons_zero, List.set_cons_succ])
      refine wpAnyH_ready (rs := [1]) (by kernel_rfl) (by simp) ?_
      refine AllReadyH.cons (o := ⟨some 31, _, _, _, _, _⟩) rfl (fun K hK => ?_) AllReadyH.nil
      rw [if_pos (by kernel_rfl)]
      go_simp
      go_at_call 16; refine (HCO.out _).mono ?_; rintro e wq1 ⟨vc, rfl, hc1, hb⟩
      have hk1 := hk0.trans (hb.mono hk0.size)
      clear hb
      refine hK.out _ _ ?_ (fun hHeld => ?_)
      · exact HS2.out _ hk1
      clear hK K
      (try simp only [Act.put, List.setIfInBounds_toArray, List.set_cons_zero, List.set_cons_succ])
      refine wpAnyH_ready (rs := [3]) (by kernel_rfl) (by simp) ?_
      refine AllReadyH.cons (o := ⟨some 33, _, _, _, _, _⟩) rfl (fun K hK => ?_) AllReadyH.nil
      rw [if_pos (by kernel_rfl)]
      go_simp
      go_at_call 17; refine (HCR.out _).mono ?_; rintro e wq2 ⟨vd, rfl, hc2, hb⟩
      have hk2 := hk1.trans (hb.mono hk1.size)
      have hc3 := hc1.keep hb
      clear hb
      refine hK.out _ _ ?_ (fun hHeld => ?_)
      · exact HS2.out _ hk2
      clear hK K
      (try simp only [Act.put, List.setIfInBounds_toArray, List.set_cons_zero, List.set_cons_succ])
      refine wpAnyH_ready (rs := [4]) (by kernel_rfl) (by simp) ?_
      refine AllReadyH.cons (o := ⟨some 34, _, _, _, _, _⟩) rfl (fun K hK => ?_) AllReadyH.nil
      rw [if_pos (by kernel_rfl)]
      go_simp
      go_at_call 15; refine (HSI.out _ _ _ hc3 hc2).mono ?_; rintro e wq3 ⟨rfl, hb⟩
      have hk3 := hk2.trans (hb.mono hk2.size)
      clear hb
      refine hK.out _ _ ?_ (fun hHeld => ?_)
      · exact HS2.out _ hk3
      clear hK K
      (try simp only [Act.put, List.setIfInBounds_toArray, List.set_cons_zero, List.set_cons_succ])
      refine wpAnyH_take (i := 5) (oi := ⟨some 35, _, _, _, _, _⟩) (v := ?_) rfl (by kernel_rfl) (by kernel_rfl) (by kernel_rfl) (fun _ _ _ h => h) (Or.inl ⟨by kernel_rfl, ?_⟩) (by assumption) ?_
      rotate_left
      · (intro w hSw; (try dsimp only at hSw); go_simp; try with_reducible rfl)
      (try simp only [Act.put, List.setIfInBounds_toArray, List.set_cons_zero, List.set_cons_succ])
      refine wpAnyH_take (i := 6) (oi := ⟨some 36, _, _, _, _, _⟩) (v := ?_) rfl (by kernel_rfl) (by kernel_rfl) (by kernel_rfl) (fun _ _ _ h => h) (Or.inl ⟨by kernel_rfl, ?_⟩) (by assumption) ?_
      rotate_left
      · (intro w hSw; (try dsimp only at hSw); go_simp; try with_reducible rfl)
      (try simp only [Act.put, List.setIfInBounds_toArray, List.set_cons_zero, List.set_cons_succ])
      refine wpAnyH_take (i := 8) (oi := ⟨some 38, _, _, _, _, _⟩) (v := ?_) rfl (by kernel_rfl) (by kernel_rfl) (by kernel_rfl) (fun _ _ _ h => h) (Or.inl ⟨by kernel_rfl, ?_⟩) (by assumption) ?_
      rotate_left
      · (intro w hSw; (try dsimp only at hSw); go_simp; try with_reducible rfl)
      (try simp only [Act.put, List.setIfInBounds_toArray, List.set_cons_zero, List.set_cons_succ])
      refine wpAnyH_ready (rs := [7]) (by kernel_rfl) (by simp) ?_
      refine AllReadyH.cons (o := ⟨some 37, _, _, _, _, _⟩) rfl (fun K hK => ?_) AllReadyH.nil
      rw [if_pos (by kernel_rfl)]
      go_simp
      go_at_call 19; refine (HWA.out _ (HG.out _ hk3)).mono ?_; rintro e wq4 ⟨va, rfl, hs1, hb⟩
      have hk4 := hk3.trans (hb.mono hk3.size)
      clear hb
      refine hK.out _ _ ?_ (fun hHeld => ?_)
      · exact HS2.out _ hk4
      clear hK K
      (try simp only [Act.put, List.setIfInBounds_toArray, List.set_cons_zero, List.set_cons_succ])
      refine wpAnyH_ready (rs := [9]) (by kernel_rfl) (by simp) ?_
      refine AllReadyH.cons (o := ⟨some 39, _, _, _, _, _⟩) rfl (fun K hK => ?_) AllReadyH.nil
      rw [if_pos (by kernel_rfl)]
      go_simp
      go_at_call 20; refine (HWR.out _ (HG.out _ hk4)).mono ?_; rintro e wq5 ⟨vb, rfl, hs2, hb⟩
      have hk5 := hk4.trans (hb.mono hk4.size)
      have hs3 := hs1.keep hb
      clear hb
      refine hK.out _ _ ?_ (fun hHeld => ?_)
      · exact HS2.out _ hk5
      clear hK K
      (try simp only [Act.put, List.setIfInBounds_toArray, List.set_cons_zero, List.set_cons_succ])
      refine wpAnyH_ready (rs := [10]) (by kernel_rfl) (by simp) ?_
      refine AllReadyH.cons (o := ⟨some 40, _, _, _, _, _⟩) rfl (fun K hK => ?_) AllReadyH.nil
      rw [if_pos (by kernel_rfl)]
      go_simp
      go_at_call 18; refine (HSS.out _ _ _ hs3 hs2).mono ?_; rintro e wq6 ⟨rfl, hb⟩
      have hk6 := hk5.trans (hb.mono hk5.size)
      clear hb
      refine hK.out _ _ ?_ (fun hHeld => ?_)
      · exact HS2.out _ hk6
      clear hK K
      (try simp only [Act.put, List.setIfInBounds_toArray, List.set_cons_zero, List.set_cons_succ])
      refine wpAnyH_take (i := 11) (oi := ⟨some 41, _, _, _, _, _⟩) (v := ?_) rfl (by kernel_rfl) (by kernel_rfl) (by kernel_rfl) (fun _ _ _ h => h) (Or.inl ⟨by kernel_rfl, ?_⟩) (by assumption) ?_
      rotate_left
      · (intro w hSw; (try dsimp only at hSw); go_simp; try with_reducible rfl)
      (try simp only [Act.put, List.setIfInBounds_toArray, List.set_cons_zero, List.set_cons_succ])
      refine wpAnyH_take (i := 12) (oi := ⟨some 42, _, _, _, _, _⟩) (v := ?_) rfl (by kernel_rfl) (by kernel_rfl) (by kernel_rfl) (fun _ _ _ h => h) (Or.inl ⟨by kernel_rfl, ?_⟩) (by assumption) ?_
      rotate_left
      · (intro w hSw; (try dsimp only at hSw); go_simp; try with_reducible rfl)
      (try simp only [Act.put, List.setIfInBounds_toArray, List.set_cons_zero, List.set_cons_succ])
      refine wpAnyH_take (i := 13) (oi := ⟨some 43, _, _, _, _, _⟩) (v := ?_) rfl (by kernel_rfl) (by kernel_rfl) (by kernel_rfl) (fun _ _ _ h => h) (Or.inl ⟨by kernel_rfl, ?_⟩) (by assumption) ?_
      rotate_left
      · (intro w hSw; (try dsimp only at hSw); go_simp; try with_reducible rfl)
      (try simp only [Act.put, List.setIfInBounds_toArray, List.set_cons_zero, List.set_cons_succ])
      refine wpAnyH_take (i := 15) (oi := ⟨some 45, _, _, _, _, _⟩) (v := ?_) rfl (by kernel_rfl) (by kernel_rfl) (by kernel_rfl) (fun _ _ _ h => h) (Or.inl ⟨by kernel_rfl, ?_⟩) (by assumption) ?_
      rotate_left
      · (intro w hSw; (try dsimp only at hSw); go_simp; try with_reducible rfl)
      (try simp only [Act.put, List.setIfInBounds_toArray, List.set_cons_zero, List.set_cons_succ])
      refine wpAnyH_ready (rs := [14]) (by kernel_rfl) (by simp) ?_
      refine AllReadyH.cons (o := ⟨some 44, _, _, _, _, _⟩) rfl (fun K hK => ?_) AllReadyH.nil
      rw [if_pos (by kernel_rfl)]
      go_simp
      go_at_call 21; refine (HSP.out _ (HG.out _ hk6)).mono ?_; rintro e wq7 ⟨rfl, hb⟩
      have hk7 := hk6.trans (hb.mono hk6.size)
      clear hb
      refine hK.out _ _ ?_ (fun hHeld => ?_)
      · exact HS2.out _ hk7
      clear hK K
      (try simp only [Act.put, List.setIfInBounds_toArray, List.set_cons_zero, List.set_cons_succ])
      refine wpAnyH_ready (rs := [16]) (by kernel_rfl) (by simp) ?_
      refine AllReadyH.cons (o := ⟨some 46, _, _, _, _, _⟩) rfl (fun K hK => ?_) AllReadyH.nil
      rw [if_pos (by kernel_rfl)]
      go_simp
      go_at_call 22; refine (HSR.out _ (HG.out _ hk7)).mono ?_; rintro e wq8 ⟨rfl, hb⟩
      have hk8 := hk7.trans (hb.mono hk7.size)
      clear hb
      refine hK.out _ _ ?_ (fun hHeld => ?_)
      · exact HS2.out _ hk8
      clear hK K
      (try simp only [Act.put, List.setIfInBounds_toArray, List.set_cons_zero, List.set_cons_succ])
      refine wpAnyH_take (i := 17) (oi := ⟨some 47, _, _, _, _, _⟩) (v := ?_) rfl (by kernel_rfl) (by kernel_rfl) (by kernel_rfl) (fun _ _ _ h => h) (Or.inl ⟨by kernel_rfl, ?_⟩) (by assumption) ?_
      rotate_left
      · (intro w hSw; (try dsimp only at hSw); go_simp; try with_reducible rfl)
      (try simp only [Act.put, List.setIfInBounds_toArray, List.set_cons_zero, List.set_cons_succ])
      refine wpAnyH_take (i := 18) (oi := ⟨some 48, _, _, _, _, _⟩) (v := ?_) rfl (by kernel_rfl) (by kernel_rfl) (by kernel_rfl) (fun _ _ _ h => h) (Or.inl ⟨by kernel_rfl, ?_⟩) (by assumption) ?_
      rotate_left
      · (intro w hSw; (try dsimp only at hSw); go_simp; try with_reducible rfl)
      (try simp only [Act.put, List.setIfInBounds_toArray, List.set_cons_zero, List.set_cons_succ])
      refine wpAnyH_take (i := 19) (oi := ⟨some 49, _, _, _, _, _⟩) (v := ?_) rfl (by kernel_rfl) (by kernel_rfl) (by kernel_rfl) (fun _ _ _ h => h) (Or.inl ⟨by kernel_rfl, ?_⟩) (by assumption) ?_
      rotate_left
      · (intro w hSw; (try dsimp only at hSw); go_simp; try with_reducible rfl)
      (try simp only [Act.put, List.setIfInBounds_toArray, List.set_cons_zero, List.set_cons_succ])
      refine wpAnyH_take (i := 20) (oi := ⟨some 50, _, _, _, _, _⟩) (v := ?_) rfl (by kernel_rfl) (by kernel_rfl) (by kernel_rfl) (fun _ _ _ h => h) (Or.inl ⟨by kernel_rfl, ?_⟩) (by assumption) ?_
      rotate_left
      · (intro w hSw; (try dsimp only at hSw); go_simp; try with_reducible rfl)
      (try simp only [Act.put, List.setIfInBounds_toArray, List.set_cons_zero, List.set_cons_succ])
      refine wpAnyH_take (i := 21) (oi := ⟨some 51, _, _, _, _, _⟩) (v := ?_) rfl (by kernel_rfl) (by kernel_rfl) (by kernel_rfl) (fun _ _ _ h => h) (Or.inl ⟨by kernel_rfl, ?_⟩) (by assumption) ?_
      rotate_left
      · (intro w hSw; (try dsimp only at hSw); go_simp; try with_reducible rfl)
      (try simp only [Act.put, List.setIfInBounds_toArray, List.set_cons_zero, List.set_cons_succ])
      refine wpAnyH_ready (rs := [22]) (by kernel_rfl) (by simp) ?_
      refine AllReadyH.cons (o := ⟨some 52, _, _, _, _, _⟩) rfl (fun K hK => ?_) AllReadyH.nil
      rw [if_pos (by kernel_rfl)]
      go_simp
      go_at_call 23; refine (HSA.out _ hk8).mono ?_; rintro e wq9 ⟨rfl, hb⟩
      have hk9 := hk8.trans (hb.mono hk8.size)
      clear hb
      refine hK.out _ _ ?_ (fun hHeld => ?_)
      · exact HS2.out _ hk9
      clear hK K
      (try simp only [Act.put, List.setIfInBounds_toArray, List.set_cons_zero, List.set_cons_succ])
      refine wpAnyH_take (i := 23) (oi := ⟨some 53, _, _, _, _, _⟩) (v := ?_) rfl (by kernel_rfl) (by kernel_rfl) (by kernel_rfl) (fun _ _ _ h => h) (Or.inl ⟨by kernel_rfl, ?_⟩) (by assumption) ?_
      rotate_left
      · (intro w hSw; (try dsimp only at hSw); go_simp; try with_reducible rfl)
      (try simp only [Act.put, List.setIfInBounds_toArray, List.set_cons_zero, List.set_cons_succ])
      refine wpAnyH_take (i := 24) (oi := ⟨some 54, _, _, _, _, _⟩) (v := ?_) rfl (by kernel_rfl) (by kernel_rfl) (by kernel_rfl) (fun _ _ _ h => h) (Or.inl ⟨by kernel_rfl, ?_⟩) (by assumption) ?_
      rotate_left
      · (intro w hSw; (try dsimp only at hSw); go_simp; try with_reducible rfl)
      (try simp only [Act.put, List.setIfInBounds_toArray, List.set_cons_zero, List.set_cons_succ])
      refine wpAnyH_take (i := 25) (oi := ⟨some 55, _, _, _, _, _⟩) (v := ?_) rfl (by kernel_rfl) (by kernel_rfl) (by kernel_rfl) (fun _ _ _ h => h) (Or.inl ⟨by kernel_rfl, ?_⟩) (by assumption) ?_
      rotate_left
      · (intro w hSw; (try dsimp only at hSw); go_simp; try with_reducible rfl)
      (try simp only [Act.put, List.setIfInBounds_toArray, List.set_cons_zero, List.set_cons_succ])
      refine wpAnyH_take (i := 26) (oi := ⟨some 56, _, _, _, _, _⟩) (v := ?_) rfl (by kernel_rfl) (by kernel_rfl) (by kernel_rfl) (fun _ _ _ h => h) (Or.inl ⟨by kernel_rfl, ?_⟩) (by assumption) ?_
      rotate_left
      · (intro w hSw; (try dsimp only at hSw); go_simp; try with_reducible rfl)
      (try simp only [Act.put, List.setIfInBounds_toArray, List.set_cons_zero, List.set_cons_succ])
      refine wpAnyH_ready (rs := [27]) (by kernel_rfl) (by simp) ?_
      refine AllReadyH.cons (o := ⟨some 57, _, _, _, _, _⟩) rfl (fun K hK => ?_) AllReadyH.nil
      rw [if_pos (by kernel_rfl)]
      go_simp
      go_at_call 24; refine (HSB.out _ hk9).mono ?_; rintro e wq10 ⟨rfl, hb⟩
      have hk10 := hk9.trans (hb.mono hk9.size)
      clear hb
      refine hK.out _ _ ?_ (fun hHeld => ?_)
      · exact HS2.out _ hk10
      clear hK K
      (try simp only [Act.put, List.setIfInBounds_toArray, List.set_cons_zero, List.set_cons_succ])
      refine wpAnyH_take (i := 28) (oi := ⟨some 58, _, _, _, _, _⟩) (v := ?_) rfl (by kernel_rfl) (by kernel_rfl) (by kernel_rfl) (fun _ _ _ h => h) (Or.inl ⟨by kernel_rfl, ?_⟩) (by assumption) ?_
      rotate_left
      · (intro w hSw; (try dsimp only at hSw); go_simp; try with_reducible rfl)
      (try simp only [Act.put, List.setIfInBounds_toArray, List.set_cons_zero, List.set_cons_succ])
      refine wpAnyH_take (i := 29) (oi := ⟨some 59, _, _, _, _, _⟩) (v := ?_) rfl (by kernel_rfl) (by kernel_rfl) (by kernel_rfl) (fun _ _ _ h => h) (Or.inl ⟨by kernel_rfl, ?_⟩) (by assumption) ?_
      rotate_left
      · (intro w hSw; (try dsimp only at hSw); go_simp; try with_reducible rfl)
      (try simp only [Act.put, List.setIfInBounds_toArray, List.set_cons_zero, List.set_cons_succ])
      refine wpAnyH_take (i := 30) (oi := ⟨some 60, _, _, _, _, _⟩) (v := ?_) rfl (by kernel_rfl) (by kernel_rfl) (by kernel_rfl) (fun _ _ _ h => h) (Or.inl ⟨by kernel_rfl, ?_⟩) (by assumption) ?_
      rotate_left
      · (intro w hSw; (try dsimp only at hSw); go_simp; try with_reducible rfl)
      (try simp only [Act.put, List.setIfInBounds_toArray, List.set_cons_zero, List.set_cons_succ])
      refine wpAnyH_take (i := 31) (oi := ⟨some 61, _, _, _, _, _⟩) (v := ?_) rfl (by kernel_rfl) (by kernel_rfl) (by kernel_rfl) (fun _ _ _ h => h) (Or.inl ⟨by kernel_rfl, ?_⟩) (by assumption) ?_
      rotate_left
      · (intro w hSw; (try dsimp only at hSw); go_simp; try with_reducible rfl)
      (try simp only [Act.put, List.setIfInBounds_toArray, List.set_cons_zero, List.set_cons_succ])
      refine wpAnyH_take (i := 32) (oi := ⟨some 62, _, _, _, _, _⟩) (v := ?_) rfl (by kernel_rfl) (by kernel_rfl) (by kernel_rfl) (fun _ _ _ h => h) (Or.inl ⟨by kernel_rfl, ?_⟩) (by assumption) ?_
      rotate_left
      · (intro w hSw; (try dsimp only at hSw); go_simp; try with_reducible rfl)
      (try simp only [Act.put, List.setIfInBounds_toArray, List.set_cons_zero, List.set_cons_succ])
      refine wpAnyH_take (i := 33) (oi := ⟨some 63, _, _, _, _, _⟩) (v := ?_) rfl (by kernel_rfl) (by kernel_rfl) (by kernel_rfl) (fun _ _ _ h => h) (Or.inl ⟨by kernel_rfl, ?_⟩) (by assumption) ?_
      rotate_left
      · (intro w hSw; (try dsimp only at hSw); go_simp; try with_reducible rfl)
      (try simp only [Act.put, List.setIfInBounds_toArray, List.set_cons_zero, List.set_cons_succ])
      refine wpAnyH_take (i := 34) (oi := ⟨some 64, _, _, _, _, _⟩) (v := ?_) rfl (by kernel_rfl) (by kernel_rfl) (by kernel_rfl) (fun _ _ _ h => h) (Or.inl ⟨by kernel_rfl, ?_⟩) (by assumption) ?_
      rotate_left
      · (intro w hSw; (try dsimp only at hSw); go_simp; try with_reducible rfl)
      (try simp only [Act.put, List.setIfInBounds_toArray, List.set_cons_zero, List.set_cons_succ])
      refine wpAnyH_ready (rs := [35]) (by kernel_rfl) (by simp) ?_
      refine AllReadyH.cons (o := ⟨some 65, _, _, _, _, _⟩) rfl (fun K hK => ?_) AllReadyH.nil
      rw [if_pos (by kernel_rfl)]
      go_simp
      go_at_call 8; refine (HAW.out _).mono ?_; rintro e wq11 ⟨rfl, hb⟩
      have hk11 := hk10.trans (hb.mono hk10.size)
      clear hb
      refine hK.out _ _ ?_ (fun hHeld => ?_)
      · exact HS2.out _ hk11
      clear hK K
      (try simp only [Act.put, List.setIfInBounds_toArray, List.set_cons_zero, List.set_cons_succ])
      refine wpAnyH_take (i := 36) (oi := ⟨some 66, _, _, _, _, _⟩) (v := ?_) rfl (by kernel_rfl) (by kernel_rfl) (by kernel_rfl) (fun _ _ _ h => h) (Or.inl ⟨by kernel_rfl, ?_⟩) (by assumption) ?_
      rotate_left
      · (intro w hSw; (try dsimp only at hSw); go_simp; try with_reducible rfl)
      (try simp only [Act.put, List.setIfInBounds_toArray, List.set_cons_zero, List.set_cons_succ])
      refine wpAnyH_take (i := 37) (oi := ⟨some 4, _, _, _, _, _⟩) (v := ?_) rfl (by kernel_rfl) (by kernel_rfl) (by kernel_rfl) (fun _ _ _ h => h) (Or.inl ⟨by kernel_rfl, ?_⟩) (by assumption) ?_
      rotate_left
      · (intro w hSw; (try dsimp only at hSw); go_simp; try with_reducible rfl)
      (try simp only [Act.put, List.setIfInBounds_toArray, List.set_cons_zero, List.set_cons_succ])
      refine wpAnyH_done (by kernel_rfl) ?_ _
      go_wp2_with fail
      go_ret
      exact ⟨rfl, HB1.out.trans ((HG.out _ hk11).mono HB1.out.size)⟩
    · have HYL := Lib.hid (fun W hk => (HLI.out W hk).1 hlit)
      have HNR := Lib.hid (fun W hk => (HRI.out hL W hk).2 hr)
      clear HRI HLI hlit hr
      go_enter Try.func4, Try.ntmps4
      go_wp2_with fail
      refine (HYL.out _ HK1.out).mono ?_
      rintro e w2 ⟨rfl, hb2⟩
      have HK2 := Lib.hid (HK1.out.trans (hb2.mono HK1.out.size))
      clear hb2
      clear r0 r1 r2
      obtain ⟨r0, r1, r2⟩ := HS.out _ HK2.out
      go_wp2_with fail
      refine (HNR.out _ HK2.out).mono ?_
      rintro e w3 ⟨rfl, hb3⟩
      have HK3 := Lib.hid (HK2.out.trans (hb3.mono HK2.out.size))
      clear hb3
      clear r0 r1 r2
      go_wp2_with fail
      refine (HAW.out _).mono ?_
      rintro e w4 ⟨rfl, hb4⟩
      have HK4 := Lib.hid (HK3.out.trans (hb4.mono HK3.out.size))
      clear hb4
      go_wp2_with fail
      go_ret
      exact ⟨rfl, HB1.out.trans (HK4.out.mono HB1.out.size)⟩
  · have HNL := Lib.hid (fun W hk => (HLI.out W hk).2 hlit)
    clear HRI hlit
    go_enter Try.func4, Try.ntmps4
    go_wp2_with fail
    refine (HNL.out _ HK1.out).mono ?_
    rintro e w2 ⟨rfl, hb2⟩
    have HK2 := Lib.hid (HK1.out.trans (hb2.mono HK1.out.size))
    clear hb2
    go_wp2_with fail
    refine (HAW.out _).mono ?_
    rintro e w3 ⟨rfl, hb3⟩
    have HK3 := Lib.hid (HK2.out.trans (hb3.mono HK2.out.size))
    clear hb3
    go_wp2_with fail
    go_ret
    exact ⟨rfl, HB1.out.trans (HK3.out.mono HB1.out.size)⟩
end Go.Proofs.Ytpblfonkcibagaa
