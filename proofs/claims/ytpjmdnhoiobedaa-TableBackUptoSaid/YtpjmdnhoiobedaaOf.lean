/-
  The program's tables of a plan.
  Conditions: the slice reads as places; the numbers are of their kinds.
-/
import Derived.Test.YtpjmdnhoiobedaaAppTb
import Derived.Test.YtpjmdnhoiobedaaFits
set_option linter.unusedVariables false
set_option linter.unusedSimpArgs false
namespace Go.Proofs.Ytpjmdnhoiobedaa
open Go.RowKit Go.Sort

def RetOf (tbs : List Tb) (w : World) (e : Ending) (w' : World) : Prop := ∃ v, e = .returned (.tuple #[v, .int .i64 0]) ∧ TabsAt w' v tbs ∧ Below w.heap.size w w'
def RetNo (w : World) (e : Ending) (w' : World) : Prop := e = .returned (.tuple #[.slice none 0 0, .int .i64 30]) ∧ Below w.heap.size w w'
theorem ticks_in {f : Int} {m : Nat} {l : List Pl} (h : Right f m l) (ho : ∀ x ∈ l, PlOk x) {n : Nat} (hn : f = (n : Int)) : TicksIn n l := fun x hx y hy => by
  have hp := (h.place x hx).split (by intro e; rw [e] at hy; cases hy)
  refine ⟨(ho x hx).2.2.2 y hy, fun t ht hb => ?_⟩
  have := (hp.kept t ht).2 (nAny_pos.2 ⟨y, hy, hb⟩)
  omega
theorem ticks_16 {m : Nat} (h : m < 65536) : ticksI m 64 = ticksI m 16 := by
  have : ∀ d : Nat, ticksI m (16 + d) = ticksI m 16 := by
    intro d
    induction d with
    | zero => rfl
    | succ d ih => rw [show 16 + (d + 1) = 16 + d + 1 by omega, ticksI_no (bit16 h (by omega)), ih]
  exact this 48

set_option maxRecDepth 100000 in
set_option maxHeartbeats 4000000 in
theorem of_bad (f : Int) (m : Nat) (v : Value) (l : List Pl) (w : World) (h : PlsAt w v l) (hL : WideL l) (hm : m < 4294967296) (hR : ¬ Right f m l) :
    Calls Try.prog 9 #[planA f m v] w (RetNo w) := by
  have HCK := Lib.hid (fun W h => planCheck_any f m v l W h hL hm)
  have HH := Lib.hid h
  unfold planA at HCK
  obtain ⟨w1, P, hw1, hP, hPl, hb1, hbox⟩ := box_any w #[.int .i64 f, .int .u32 m, v] 25
  have HB1 := Lib.hid hb1
  obtain ⟨r0, r1, r2⟩ := three_heads hbox
  clear h hb1 hbox
  unfold planA
  go_enter Try.func9, Try.ntmps9
  go_wp2_with fail
  refine (HCK.out _ (HH.out.keep HB1.out)).mono ?_
  rintro e w2 ⟨E, rfl, hE3, hE, hb2⟩
  obtain rfl : E = 30 := hE3.resolve_left fun h => hR (hE.1 h)
  have HB2 := Lib.hid (HB1.out.trans (hb2.mono HB1.out.size))
  clear hb2 hE3 hE
  go_wp2_with fail
  go_ret2
  exact ⟨rfl, HB2.out⟩

set_option maxRecDepth 100000 in
set_option maxHeartbeats 8000000 in
theorem of_right (n m : Nat) (v : Value) (l : List Pl) (w : World) (h : PlsAt w v l) (hL : LightL l) (hR : Right n m l) :
    Calls Try.prog 9 #[planA n m v] w (RetOf (tabsOf n m l) w) := by
  have hm : m < 4294967296 := by have := hR.m16; omega
  have hn64 : n ≤ 64 := by have := hR.f64; omega
  have HCK := Lib.hid (fun W h => planCheck_any n m v l W h hL.wide hm)
  have HTI := Lib.hid (ticks_in hR (fun x hx => (hL.ok x hx).1) rfl)
  have HRI := Lib.hid hR
  have H16 := Lib.hid (ticks_16 hR.m16)
  obtain ⟨A, cA, rfl, hlc, hcm⟩ := h.form
  have HL := Lib.hid h
  obtain ⟨w1, P, hw1, hP, hPl, hb1, hbox⟩ := box_any w #[.int .i64 (n : Int), .int .u32 m, .slice A l.length cA] 25
  obtain ⟨L, hLn⟩ : ∃ L, l.length = L := ⟨_, rfl⟩
  have hl3 : L ≤ 300 := by rw [← hLn]; exact hL.len
  have HCO := Lib.hid (fun W => cores_any n m (.slice A l.length cA) W hm)
  have HOW := Lib.hid (fun c W h => owners_any n m (.slice A l.length cA) l c W h (by omega) (fun x hx => (hL.ok x hx).2) hn64 HTI.out)
  have HWO := Lib.hid (fun c W h => wholes_own n m (.slice A l.length cA) l c W h (by omega))
  rw [H16.out] at HCO
  unfold planA at HCO HWO HOW HCK
  rw [hLn] at HL hlc hw1 hbox HCO HWO HOW HCK ⊢
  have HLN := Lib.hid hLn
  have HB1 := Lib.hid hb1
  have HBOX := Lib.hid hbox
  obtain ⟨r0, r1, r2⟩ := three_heads hbox
  have mixed : Try.prog.follows .mixedOrders = true := by kernel_rfl
  clear h hb1 hbox hL hLn hR
  unfold planA
  go_enter Try.func9, Try.ntmps9
  go_wp2_with fail
  refine (HCK.out _ (HL.out.keep HB1.out)).mono ?_
  rintro e w2 ⟨E, rfl, _, hE, hb2⟩
  obtain rfl : E = 0 := hE.2 HRI.out
  have HB2 := Lib.hid hb2
  have HBX2 := Lib.hid (keep_block HBOX.out hb2)
  clear hb2 hE r0 r1 r2 hw1 hP
  obtain ⟨r0, r1, r2⟩ := three_heads HBX2.out
  go_wp2_with fail
  refine (HCO.out _).mono ?_
  rintro e w3 ⟨v3, rfl, hi3, hb3⟩
  obtain ⟨Ac, cc, rfl⟩ := hi3.form
  have HIC := Lib.hid hi3
  have HB3 := Lib.hid (HB2.out.trans (hb3.mono HB2.out.size))
  obtain ⟨nc, hnc⟩ : ∃ nc, (ticksI m 16).length = nc := ⟨_, rfl⟩
  have hnc16 : nc ≤ 16 := by rw [← hnc, ticksI_length]; exact cntT_le _ _
  rw [hnc] at HIC ⊢
  have HNC := Lib.hid hnc
  clear hi3 hnc r0 r1 r2
  have HBS := Lib.hid (show w1.heap.size ≤ w3.heap.size from HB3.out.size)
  clear hb3
  go_wp2_with fail
  go_loopg [5, 7, 16] nc (fun gg s5 _ s16 wr => ∃ (i : Nat) (ls : List Rt), i ≤ nc ∧ gg = nc - i ∧ s16 = .int .i64 i ∧ Below w3.heap.size w3 wr ∧ tbsR ls = ((ticksI m 16).take i).map (tabOf n l) ∧ RowTb 38 wr w3.heap.size (fun _ => True) s5 ls)
  case atStart => exact ⟨0, [], Nat.zero_le _, by omega, rfl, Below.refl _ _, rfl, RowTb.nil _ _ _ _⟩
  case round =>
    obtain ⟨i, ls, hi1, hg1, rfl, hbw, hls, hrow⟩ := hrel
    have HGI := Lib.hid hg1
    have HBW := Lib.hid hbw
    have HB31 := Lib.hid (HB3.out.trans (hbw.mono HBS.out))
    have HB := Lib.hid (HB1.out.trans (HB31.out.mono HB1.out.size))
    have HIW := Lib.hid (HIC.out.keep hbw)
    have HLS := Lib.hid hls
    have HRW := Lib.hid hrow
    have HBX := Lib.hid (keep_block HBOX.out HB31.out)
    have HLR := Lib.hid (HL.out.keep HB.out)
    clear hg1 hbw hls hrow
    by_cases hil : i < nc
    · have hi0 : (0 : Int) ≤ (i : Int) := by omega
      have hiz : (i : Int) < (nc : Int) := by omega
      obtain ⟨c, hc⟩ := exP_at (xs := ticksI m 16) (k := i) (by rw [HNC.out]; exact hil)
      obtain ⟨bc, oc, hAc, lbc0, hcl⟩ : ∃ bc oc, Ac = some ⟨bc, oc, none⟩ ∧ bc < wr.heap.size ∧ ∀ (j : Nat) (x : Int), (ticksI m 16)[j]? = some x → wr.cell? ⟨bc, oc + j, none⟩ = some (.int .i64 x) := by
        obtain ⟨A', c', e, _, h3⟩ := HIW.out
        injection e with e1 e2 e3
        obtain ⟨b4, o4, e4, h4, h5⟩ := h3 (by rw [HNC.out]; omega)
        exact ⟨b4, o4, e1.trans e4, h4, h5⟩
      subst hAc
      have hcc := hcl i c hc
      have HC := Lib.hid hc
      have hle : ls.length ≤ 1000 := by rw [← tbsR_length, HLS.out, List.length_map, List.length_take]; omega
      have lP := heap_lt HBX.out
      have hPn : u5.ownBlock ≠ some P := fun e => by have h1 := own_base5 HRW.out.own P e; have h2 := HBS.out; omega
      have hk0 : Below wr.heap.size wr wr.drew := (Below.refl _ wr).drew
      have HS2 : Hid (∀ W, Below wr.heap.size wr W → W.cell? ⟨P, 0, none⟩ = some (.int .i64 (n : Int)) ∧ W.cell? ⟨P, 1, none⟩ = some (.int .u32 m) ∧ W.cell? ⟨P, 2, none⟩ = some (.slice A L cA)) := Lib.hid (fun W hk => three_heads (keep_block HBX.out hk))
      clear hcl hc lbc0
      go_wp2_with fail
      clear hcc
      refine wp_region_held_drew (S := fun w' => w'.cell? ⟨P, 0, none⟩ = some (.int .i64 (n : Int)) ∧ w'.cell? ⟨P, 1, none⟩ = some (.int .u32 m) ∧ w'.cell? ⟨P, 2, none⟩ = some (.slice A L cA)) (by kernel_rfl) ?_ (fun hHeld => ?_)
      · exact HS2.out _ hk0
      refine wpAnyH_take (i := 0) (oi := ⟨some 20, _, _, _, _, _⟩) (v := ?_) rfl (by kernel_rfl) (by kernel_rfl) (by kernel_rfl) (fun _ _ _ h => h) (Or.inl ⟨by kernel_rfl, ?_⟩) (by assumption) ?_
      rotate_left
      · (intro w hSw; (try dsimp only at hSw); go_simp; try with_reducible rfl)
      (try simp only [Act.put, List.setIfInBounds_toArray, List.set_cons_zero, List.set_cons_succ])
      refine wpAnyH_take (i := 1) (oi := ⟨some 21, _, _, _, _, _⟩) (v := ?_) rfl (by kernel_rfl) (by kernel_rfl) (by kernel_rfl) (fun _ _ _ h => h) (Or.inl ⟨by kernel_rfl, ?_⟩) (by assumption) ?_
      rotate_left
      · (intro w hSw; (try dsimp only at hSw); go_simp; try with_reducible rfl)
      (try simp only [Act.put, List.setIfInBounds_toArray, List.set_cons_zero, List.set_cons_succ])
      refine wpAnyH_take (i := 2) (oi := ⟨some 22, _, _, _, _, _⟩) (v := ?_) rfl (by kernel_rfl) (by kernel_rfl) (by kernel_rfl) (fun _ _ _ h => h) (Or.inl ⟨by kernel_rfl, ?_⟩) (by assumption) ?_
      rotate_left
      · (intro w hSw; (try dsimp only at hSw); go_simp; try with_reducible rfl)
      (try simp only [Act.put, List.setIfInBounds_toArray, List.set_cons_zero, List.set_cons_succ])
      refine wpAnyH_take (i := 3) (oi := ⟨some 23, _, _, _, _, _⟩) (v := ?_) rfl (by kernel_rfl) (by kernel_rfl) (by kernel_rfl) (fun _ _ _ h => h) (Or.inl ⟨by kernel_rfl, ?_⟩) (by assumption) ?_
      rotate_left
      · (intro w hSw; (try dsimp only at hSw); go_simp; try with_reducible rfl)
      (try simp only [Act.put, List.setIfInBounds_toArray, List.set_cons_zero, List.set_cons_succ])
      refine wpAnyH_take (i := 5) (oi := ⟨some 25, _, _, _, _, _⟩) (v := ?_) rfl (by kernel_rfl) (by kernel_rfl) (by kernel_rfl) (fun _ _ _ h => h) (Or.inl ⟨by kernel_rfl, ?_⟩) (by assumption) ?_
      rotate_left
      · (intro w hSw; (try dsimp only at hSw); go_simp; try with_reducible rfl)
      (try simp only [Act.put, List.setIfInBounds_toArray, List.set_cons_zero, List.set_cons_succ])
      refine wpAnyH_take (i := 6) (oi := ⟨some 26, _, _, _, _, _⟩) (v := ?_) rfl (by kernel_rfl) (by kernel_rfl) (by kernel_rfl) (fun _ _ _ h => h) (Or.inl ⟨by kernel_rfl, ?_⟩) (by assumption) ?_
      rotate_left
      · (intro w hSw; (try dsimp only at hSw); go_simp; try with_reducible rfl)
      (try simp only [Act.put, List.setIfInBounds_toArray, List.set_cons_zero, List.set_cons_succ])
      refine wpAnyH_ready (rs := [4]) (by kernel_rfl) (by simp) ?_
      refine AllReadyH.cons (o := ⟨some 24, _, _, _, _, _⟩) rfl (fun K hK => ?_) AllReadyH.nil
      rw [if_pos (by kernel_rfl)]
      go_simp
      go_at_call 23; refine (HOW.out c _ (HLR.out.keep hk0)).mono ?_; rintro e wq1 ⟨vo, rfl, hio, hbo, hb1⟩
      obtain ⟨Ao, co, rfl⟩ := hio.form
      have hk1 := hk0.trans (hb1.mono hk0.size)
      refine hK.out _ _ ?_ (fun hHeld => ?_)
      · exact HS2.out _ hk1
      clear hK K
      (try simp only [Act.put, List.setIfInBounds_toArray, List.set_cons_zero, List.set_cons_succ])
      obtain ⟨Lo, hLo⟩ : ∃ Lo, (rowN n (ownF l c)).length = Lo := ⟨_, rfl⟩
      rw [hLo] at hio hbo ⊢
      refine wpAnyH_ready (rs := [7]) (by kernel_rfl) (by simp) ?_
      refine AllReadyH.cons (o := ⟨some 27, _, _, _, _, _⟩) rfl (fun K hK => ?_) AllReadyH.nil
      rw [if_pos (by kernel_rfl)]
      go_simp
      go_at_call 24; refine (HWO.out c _ (HLR.out.keep hk1)).mono ?_; rintro e wq2 ⟨vw, rfl, hsw, hbw2, hb2⟩
      obtain ⟨Aw, cw, rfl⟩ := hsw.form
      have hk2 := hk1.trans (hb2.mono hk1.size)
      refine hK.out _ _ ?_ (fun hHeld => ?_)
      · exact HS2.out _ hk2
      clear hK K
      (try simp only [Act.put, List.setIfInBounds_toArray, List.set_cons_zero, List.set_cons_succ])
      obtain ⟨Lw, hLw⟩ : ∃ Lw, (wholesT l c).length = Lw := ⟨_, rfl⟩
      rw [hLw] at hsw hbw2 ⊢
      refine wpAnyH_take (i := 8) (oi := ⟨some 28, _, _, _, _, _⟩) (v := ?_) rfl (by kernel_rfl) (by kernel_rfl) (by kernel_rfl) (fun _ _ _ h => h) (Or.inl ⟨by kernel_rfl, ?_⟩) (by assumption) ?_
      rotate_left
      · (intro w hSw; (try dsimp only at hSw); go_simp; try with_reducible rfl)
      (try simp only [Act.put, List.setIfInBounds_toArray, List.set_cons_zero, List.set_cons_succ])
      refine wpAnyH_ready (rs := [9]) (by kernel_rfl) (by simp) ?_
      refine AllReadyH.cons (o := ⟨some 29, _, _, _, _, _⟩) rfl (fun K hK => ?_) AllReadyH.nil
      obtain ⟨wq3, N, hwN, hNe, hNl, hb3, hNb⟩ := box_any wq2 #[.int .i64 c, .slice Ao Lo co, .slice Aw Lw cw] 38
      have hk3 := hk2.trans (hb3.mono hk2.size)
      rw [if_pos (by kernel_rfl)]
      go_simp
      refine hK.out _ _ ?_ (fun hHeld => ?_)
      · exact HS2.out _ hk3
      clear hK K
      (try simp only [Act.put, List.setIfInBounds_toArray, List.set_cons_zero, List.set_cons_succ])
      clear hwN
      refine wpAnyH_ready (rs := [10]) (by kernel_rfl) (by simp) ?_
      refine AllReadyH.cons (o := ⟨some 30, _, _, _, _, _⟩) rfl (fun K hK => ?_) AllReadyH.nil
      obtain ⟨e1, e2⟩ := tb_cells (Ao := Ao) (Aw := Aw) (co := co) (cw := cw) hLo hLw
      have hrr : TbIn (fun b => True ∧ u5.ownBlock ≠ some b) wq3 ((Ao, co), (Aw, cw), tabOf n l c) := by
        have hlt : ∀ b, u5.ownBlock = some b → b < wr.heap.size := fun b hb => own_lt HRW.out.own hb
        refine ⟨?_, ?_, ?_, ?_⟩
        · rw [e1]; exact (hio.keep hb2).keep hb3
        · rw [e2]; exact hsw.keep hb3
        · intro h0 b hb
          rw [e1] at hb
          exact ⟨trivial, fun e => by have := hlt b e; have h1 := hbo (by rw [← hLo]; exact h0) b hb; have h2 := hk0.size; omega⟩
        · intro h0 b hb
          rw [e2] at hb
          exact ⟨trivial, fun e => by have := hlt b e; have h1 := hbw2 (by rw [← hLw]; exact h0) b hb; have h2 := hk1.size; omega⟩
      have hNb2 : wq3.heap[N]? = some (.cells #[.int .i64 c, tV1 ((Ao, co), (Aw, cw), tabOf n l c), tV2 ((Ao, co), (Aw, cw), tabOf n l c)] 38 (0, 0)) := by rw [e1, e2]; exact hNb
      obtain ⟨v6, w6, hrun, hrow6, hb6, hk6, hat6⟩ := app_tb wq3 w3.heap.size (fun _ => True) u5 ls ((Ao, co), (Aw, cw), tabOf n l c) N (HRW.out.keep hk3) hNb2 hrr hle (Nat.le_trans HBW.out.size hk3.size)
      have lP3 : P < wq3.heap.size := Nat.lt_of_lt_of_le lP hk3.size
      refine step_append_run16 rfl _ _ 28 28 rfl _ _ (by simp [Act.eval, Act.put]) (by simp [Act.eval, Act.put]) hrun ?_
      refine hK.out _ _ ?_ (fun hHeld => ?_)
      · exact ⟨(World.cell?_of_block (hk6 P lP3 hPn)).trans (HS2.out _ hk3).1, (World.cell?_of_block (hk6 P lP3 hPn)).trans (HS2.out _ hk3).2.1, (World.cell?_of_block (hk6 P lP3 hPn)).trans (HS2.out _ hk3).2.2⟩
      clear hK K
      (try simp only [Act.put, List.setIfInBounds_toArray, List.set_cons_zero, List.set_cons_succ])
      refine wpAnyH_take (i := 11) (oi := ⟨some 5, _, _, _, _, _⟩) (v := ?_) rfl (by kernel_rfl) (by kernel_rfl) (by kernel_rfl) (fun _ _ _ h => h) (Or.inl ⟨by kernel_rfl, ?_⟩) (by assumption) ?_
      rotate_left
      · (intro w hSw; (try dsimp only at hSw); go_simp; try with_reducible rfl)
      (try simp only [Act.put, List.setIfInBounds_toArray, List.set_cons_zero, List.set_cons_succ])
      refine wpAnyH_done (by kernel_rfl) ?_ _
      have HB6 := Lib.hid (HBW.out.trans ((hk3.mono HBW.out.size).trans hb6))
      have HT6 : Hid (tbsR (ls ++ [((Ao, co), (Aw, cw), tabOf n l c)]) = ((ticksI m 16).take (i + 1)).map (tabOf n l)) := Lib.hid (by
        rw [tbsR_snoc, HLS.out, List.take_add_one, HC.out, Option.toList_some, List.map_append]
        rfl)
      have HR6 := Lib.hid hrow6
      clear hHeld
      go_wp2_with fail
      go_roundg (nc - (i + 1))
      case measure => have := HGI.out; omega
      case rel => exact ⟨i + 1, _, by omega, rfl, by go_num, HB6.out, HT6.out, HR6.out⟩
    · have hiz : ¬ (i : Int) < (nc : Int) := by omega
      have HE : Hid (tbsR ls = tabsOf n m l) := Lib.hid (by rw [HLS.out, List.take_of_length_le (by rw [HNC.out]; omega)]; rfl)
      have HF := Lib.hid (tabs_of_own HRW.out)
      rw [HE.out] at HF
      go_wp2_with fail
      go_ret2
      exact ⟨_, rfl, HF.out, HB.out⟩
end Go.Proofs.Ytpjmdnhoiobedaa
