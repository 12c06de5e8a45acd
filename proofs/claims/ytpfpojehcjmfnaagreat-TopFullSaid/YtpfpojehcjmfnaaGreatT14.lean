/-
  slices.SortFunc of wants by compare; Sort of the program.
  Conditions: the row is of the caller's own.
-/
import Derived.Test.YtpfpojehcjmfnaaGreatT13
import Derived.Test.YtpfpojehcjmfnaaGreatT02
import Derived.Lib.SliceRun
import Derived.Shelf.SlSortCmp.QuietGrown
import Derived.Shelf.SlGeneric
import Derived.Shelf.SlSortCmp.WholeK
import Derived.Ground.SlsfProg
import Derived.Test.YtpfpojehcjmfnaaGreatProg
import Derived.Shelf.SlSortCmp.NoneTotal

/-
  Put of the program.
  Conditions: the slices read as places, as pieces; where the place belongs is told.
-/
set_option linter.unusedVariables false
set_option linter.unusedSimpArgs false
namespace Go.Proofs.YtpfpojehcjmfnaaGreat
open Go.RowKit Go.Sort

theorem ins_pls (ls : List Rp) (k : Nat) (r : Rp) : plsR (ls.take k ++ [r] ++ ls.drop k) = putPl (plsR ls) r.2 k := by rw [plsR_append, plsR_append, plsR_take, plsR_drop]; rfl
theorem all_ins {F : Nat → Prop} {W : World} {ls : List Rp} {k : Nat} {r : Rp} (h : AllPcs F W ls) (hr : PcsIn F W (rpV r) r.2.ps) : AllPcs F W (ls.take k ++ [r] ++ ls.drop k) := fun y hy => by
  rcases List.mem_append.1 hy with hy | hy
  · rcases List.mem_append.1 hy with hy | hy
    · exact h y (List.mem_of_mem_take hy)
    · rw [List.mem_singleton.1 hy]; exact hr
  · exact h y (List.mem_of_mem_drop hy)

set_option maxRecDepth 100000 in
set_option maxHeartbeats 8000000 in
theorem planPut_any (f : Int) (m : Nat) (v vx : Value) (l : List Pl) (x : Pl) (w : World) (h : PlsAt w v l) (hx : PcsAt w vx x.ps) (hl : l.length ≤ 999) (hp : ∀ y ∈ l, y.ps.length ≤ 1000) (hxl : x.ps.length ≤ 1000) (kk : Nat) (hk : PutAt (dropT l x.u) x.u kk) :
    Calls Tryz.prog 81 #[planA f m v, plA vx x] w (RetPn (fun b => w.heap.size ≤ b) f m (putPl (dropT l x.u) x kk) w) := by
  have mixed : Tryz.prog.follows .mixedOrders = true := by kernel_rfl
  obtain ⟨B, dd, rfl⟩ := hx.form
  obtain ⟨w1, P, hw1, hP, hPl, hb1, hbox⟩ := box_any w #[.int .i64 f, .int .u32 m, v] 26
  obtain ⟨w2, X, hw2, hX, hXl, hb2, hxox⟩ := box_any w1 #[.int .i64 x.u, .int .i64 x.s, .int .i64 x.c, .slice B x.ps.length dd] 48
  obtain ⟨w3, R, hw3, hR, hRl, hb3, hrox⟩ := box_any w2 #[.int .i64 0, .int .u32 0, .slice none 0 0] 26
  have HB3 := Lib.hid ((hb1.trans (hb2.mono hb1.size)).trans (hb3.mono (Nat.le_trans hb1.size hb2.size)))
  have HPB := Lib.hid (keep_block (keep_block hbox hb2) hb3)
  have HXB := Lib.hid (keep_block hxox hb3)
  have HRB := Lib.hid hrox
  have HLT := Lib.hid (show w.heap.size ≤ P ∧ P < X ∧ X < R ∧ R < w3.heap.size by have := hb1.size; have := hb2.size; omega)
  have HXP := Lib.hid hx
  have HXL := Lib.hid hxl
  have HD := Lib.hid (planDrop_any f m v l x.u w3 (h.keep HB3.out) (by omega) hp)
  have hdl : (dropT l x.u).length ≤ 999 := Nat.le_trans (drop_le _ _) hl
  obtain ⟨p0, p1, p2⟩ := three_heads HPB.out
  obtain ⟨x0, x1, x2, x3⟩ := four_heads HXB.out
  unfold planA at HD ⊢
  unfold plA
  have HK := Lib.hid hk
  unfold RetRow planA at HD
  generalize dropT l x.u = d at *
  have HDL := Lib.hid hdl
  clear h hx hl hp hk hb1 hb2 hb3 hbox hxox hrox hxl
  go_enter Tryz.func81, Tryz.ntmps81
  go_wp2_with fail
  refine HD.out.mono ?_
  rintro e w4 ⟨v1, ls, rfl, hls, hrow, hb4⟩
  obtain ⟨A1, c1, hv1⟩ := own_form hrow.own
  obtain ⟨n, hn⟩ : ∃ n, ls.length = n := ⟨_, rfl⟩
  rw [hn] at hv1
  subst hv1
  have HLS := Lib.hid hls
  have HN := Lib.hid hn
  have HB4 := Lib.hid (HB3.out.trans (hb4.mono HB3.out.size))
  have HP4 := Lib.hid (keep_block HPB.out hb4)
  have HX4 := Lib.hid (keep_block HXB.out hb4)
  have HR4 := Lib.hid (keep_block HRB.out hb4)
  have hlt := HLT.out
  have hs4 := hb4.size
  have HS4 := Lib.hid hs4
  obtain ⟨w5, hw5⟩ : ∃ w5, w4.setRow P #[.int .i64 f, .int .u32 m, .slice A1 n c1] = w5 := ⟨_, rfl⟩
  have HS5 : Hid (w5.heap.size = w4.heap.size) := Lib.hid (by rw [← hw5]; simp)
  have HB5 : Hid (Below w.heap.size w w5) := Lib.hid (by rw [← hw5]; exact below_row HB4.out hlt.1 _)
  have HP5 : Hid (w5.heap[P]? = some (.cells #[.int .i64 f, .int .u32 m, .slice A1 n c1] 26 (0, 0))) := Lib.hid (by rw [← hw5]; exact setRow_heap _ _ _ _ _ _ HP4.out)
  have HX5 : Hid (w5.heap[X]? = some (.cells #[.int .i64 x.u, .int .i64 x.s, .int .i64 x.c, .slice B x.ps.length dd] 48 (0, 0))) := Lib.hid (by rw [← hw5]; exact (setRow_other _ _ _ _ (by omega)).trans HX4.out)
  have HR5 : Hid (w5.heap[R]? = some (.cells #[.int .i64 0, .int .u32 0, .slice none 0 0] 26 (0, 0))) := Lib.hid (by rw [← hw5]; exact (setRow_other _ _ _ _ (by omega)).trans HR4.out)
  have HXP5 : Hid (PcsAt w5 (.slice B x.ps.length dd) x.ps) := Lib.hid (by
    rw [← hw5]
    exact (((HXP.out.mono (G := fun b => b < w.heap.size) fun b hb _ => hb).keep HB4.out).setRow (.inl fun h => by omega)).any)
  have HROW : Hid (RowPl w5 w3.heap.size (fun b => w3.heap.size ≤ b) (.slice A1 n c1) ls) := Lib.hid (by
    rw [← hw5]
    exact hrow.at_base (Nat.le_refl _) (by simp) fun b hb => setRow_other _ _ _ _ (by omega))
  have HPL := Lib.hid (pls_of_own HROW.out.own HROW.out.pcs)
  rw [HLS.out] at HPL
  have HBS := Lib.hid (binary_any (.slice A1 n c1) (.slice B x.ps.length dd) d x.u x.s x.c kk w5 HPL.out.any (by have := HDL.out; omega) HK.out)
  clear hb4 p0 p1 p2 x0 x1 x2 x3 hw1 hP hw2 hX hw3 hR hs4 hrow hls
  obtain ⟨p0, p1, p2⟩ := three_heads HP5.out
  obtain ⟨x0, x1, x2, x3⟩ := four_heads HX5.out
  go_wp2_with (refine wpList_store_row rfl _ _ _ rfl P #[.int .i64 f, .int .u32 m, .slice A1 n c1] rfl rfl 26 _ HP4.out (Tryz.sizePn _ _ _) rfl (one3 _ _ _ _ _) ?_)
  refine HBS.out.mono ?_
  rintro e w6 ⟨fd, rfl, hb6⟩
  have HK6 := Lib.hid hb6
  have HCL := Lib.hid (fun W (hk : Below w5.heap.size w5 W) => clonePl_any (.slice B x.ps.length dd) x W (HXP5.out.keep hk) HXL.out)
  unfold RetPl plA at HCL
  have HX6 := Lib.hid (fun W (hk : Below w5.heap.size w5 W) => four_heads (keep_block HX5.out hk))
  have HP6 := Lib.hid (fun W (hk : Below w5.heap.size w5 W) => three_heads (keep_block HP5.out hk))
  have hk0 : Below w5.heap.size w5 w6.drew := HK6.out.drew
  have HKN : Hid (kk ≤ ls.length) := Lib.hid (by rw [← plsR_length, HLS.out]; exact HK.out.le)
  have HLL : Hid (ls.length ≤ 1000) := Lib.hid (by rw [← plsR_length, HLS.out]; have := HDL.out; omega)
  clear hb6 p0 p1 p2 x0 x1 x2 x3 hw5
  go_wp2_with fail
  refine wp_region_held_drew (S := fun w' => w'.cell? ⟨X, 0, none⟩ = some (.int .i64 x.u) ∧ w'.cell? ⟨X, 1, none⟩ = some (.int .i64 x.s) ∧ w'.cell? ⟨X, 2, none⟩ = some (.int .i64 x.c) ∧ w'.cell? ⟨X, 3, none⟩ = some (.slice B x.ps.length dd)) (by kernel_rfl) ?_ (fun hHeld => ?_)
  · exact HX6.out _ hk0
  refine wpAnyH_take (i := 0) (oi := ⟨some 18, _, _, _, _, _⟩) (v := ?_) rfl (by kernel_rfl) (by kernel_rfl) (by kernel_rfl) (fun _ _ _ h => h) (Or.inl ⟨by kernel_rfl, ?_⟩) (by assumption) ?_
  rotate_left
  · (intro w hSw; (try dsimp only at hSw); go_simp; try with_reducible rfl)
  (try simp only [Act.put, List.setIfInBounds_toArray, List.set_cons_zero, List.set_cons_succ])
  refine wpAnyH_take (i := 2) (oi := ⟨some 20, _, _, _, _, _⟩) (v := ?_) rfl (by kernel_rfl) (by kernel_rfl) (by kernel_rfl) (fun _ _ _ h => h) (Or.inl ⟨by kernel_rfl, ?_⟩) (by assumption) ?_
  rotate_left
  · (intro w hSw; (try dsimp only at hSw); go_simp; try with_reducible rfl)
  (try simp only [Act.put, List.setIfInBounds_toArray, List.set_cons_zero, List.set_cons_succ])
  refine wpAnyH_take (i := 3) (oi := ⟨some 21, _, _, _, _, _⟩) (v := ?_) rfl (by kernel_rfl) (by kernel_rfl) (by kernel_rfl) (fun _ _ _ h => h) (Or.inl ⟨by kernel_rfl, ?_⟩) (by assumption) ?_
  rotate_left
  · (intro w hSw; (try dsimp only at hSw); go_simp; try with_reducible rfl)
  (try simp only [Act.put, List.setIfInBounds_toArray, List.set_cons_zero, List.set_cons_succ])
  refine wpAnyH_ready (rs := [1, 4]) (by kernel_rfl) (by simp) ?_
  refine AllReadyH.cons (o := ⟨some 19, _, _, _, _, _⟩) rfl (fun K hK => ?_) (AllReadyH.cons (o := ⟨some 22, _, _, _, _, _⟩) rfl (fun K hK => ?_) AllReadyH.nil)
  · obtain ⟨p0, p1, p2⟩ := HP6.out _ hk0
    rw [if_pos (by kernel_rfl)]
    go_simp
    refine hK.out _ _ ?_ (fun hHeld => ?_)
    · exact HX6.out _ hk0
    clear hK K p0 p1 p2
    (try simp only [Act.put, List.setIfInBounds_toArray, List.set_cons_zero, List.set_cons_succ])
    refine wpAnyH_ready (rs := [4]) (by kernel_rfl) (by simp) ?_
    refine AllReadyH.cons (o := ⟨some 22, _, _, _, _, _⟩) rfl (fun K hK => ?_) AllReadyH.nil
    rw [if_pos (by kernel_rfl)]
    go_simp
    go_at_call 124; refine (HCL.out _ hk0).mono ?_; rintro e wq ⟨vc, rfl, hps, hb⟩
    obtain ⟨Ac, dc, rfl⟩ := hps.form
    have hkA := hk0.trans (hb.mono hk0.size)
    have hsA := hk0.size
    refine hK.out _ _ ?_ (fun hHeld => ?_)
    · exact HX6.out _ hkA
    clear hK K
    (try simp only [Act.put, List.setIfInBounds_toArray, List.set_cons_zero, List.set_cons_succ])
    refine wpAnyH_ready (rs := [5]) (by kernel_rfl) (by simp) ?_
    refine AllReadyH.cons (o := ⟨some 23, _, _, _, _, _⟩) rfl (fun K hK => ?_) AllReadyH.nil
    obtain ⟨wN, N, hwN, hN, hNl, hbN, hNb⟩ := box_any wq #[.int .i64 x.u, .int .i64 x.s, .int .i64 x.c, .slice Ac x.ps.length dc] 48
    have hkN := hkA.trans (hbN.mono hkA.size)
    rw [if_pos (by kernel_rfl)]
    go_simp
    refine hK.out _ _ ?_ (fun hHeld => ?_)
    · exact HX6.out _ hkN
    clear hK K
    (try simp only [Act.put, List.setIfInBounds_toArray, List.set_cons_zero, List.set_cons_succ])
    refine wpAnyH_ready (rs := [6]) (by kernel_rfl) (by simp) ?_
    refine AllReadyH.cons (o := ⟨some 24, _, _, _, _, _⟩) rfl (fun K hK => ?_) AllReadyH.nil
    have hrN := HROW.out.keep hkN
    have hoN := hrN.own
    have hne : (Value.slice A1 n c1).ownBlock ≠ some N := fun e => by have := own_lt (HROW.out.keep hkA).own e; omega
    have hpN : PcsIn (fun b => w3.heap.size ≤ b ∧ (Value.slice A1 n c1).ownBlock ≠ some b) wN (rpV ((Ac, dc), x)) x.ps := (hps.keep hbN).mono fun b _ hF => ⟨by have := HS5.out; have := HS4.out; omega, fun e => by have := own_lt HROW.out.own e; omega⟩
    have hIN := insert_any w3.heap.size (.slice A1 n c1) ls kk ((Ac, dc), x) N wN hoN HKN.out HLL.out (by have := hkN.size; have := HS5.out; have := HS4.out; omega) hNb hne
    unfold RetMp at hIN
    rw [if_pos (by kernel_rfl)]
    go_simp
    go_at_call 130; refine hIN.mono ?_; rintro e wI ⟨vI, rfl, hownI, hapI, hgrI⟩
    have hall := all_ins (k := kk) hrN.pcs hpN
    have hallI : AllPcs (fun b => w3.heap.size ≤ b ∧ (Value.slice A1 n c1).ownBlock ≠ some b) wI (ls.take kk ++ [((Ac, dc), x)] ++ ls.drop kk) := hall.keepF hapI.size fun b hb hF => hapI.block b hb hF.2
    have hold : ∀ b, b < w3.heap.size → wI.heap[b]? = w5.heap[b]? := fun b hb => (hapI.block b (by have := hkN.size; have := HS5.out; have := HS4.out; omega) (fun e => by have := own_base5 HROW.out.own b e; omega)).trans (hkN.block b (by have := HS5.out; have := HS4.out; omega))
    have HPI := Lib.hid ((hold P (by omega)).trans HP5.out)
    have HXI := Lib.hid ((hold X (by omega)).trans HX5.out)
    have HRI := Lib.hid ((hold R (by omega)).trans HR5.out)
    have HBI : Hid (Below w.heap.size w wI) := Lib.hid ((HB5.out.trans (hkN.mono HB5.out.size)).trans (hapI.below (by have := HB5.out.size; have := hkN.size; omega) fun b hb e => by have := own_base5 HROW.out.own b e; omega))
    obtain ⟨AI, cI, hvI⟩ := own_form hownI
    obtain ⟨NI, hNI⟩ : ∃ NI, (ls.take kk ++ [(((Ac, dc), x) : Rp)] ++ ls.drop kk).length = NI := ⟨_, rfl⟩
    rw [hNI] at hvI
    subst hvI
    have HPN := Lib.hid (pls_of_own hownI (hallI.mono (G := fun b => w3.heap.size ≤ b) fun b _ hF => hF.1))
    rw [ins_pls, HLS.out] at HPN
    refine hK.out _ _ ?_ (fun hHeld => ?_)
    · exact four_heads HXI.out
    clear hK K
    (try simp only [Act.put, List.setIfInBounds_toArray, List.set_cons_zero, List.set_cons_succ])
    clear hIN hoN hrN hpN hall hallI hapI hgrI hownI hold hNb hbN hwN
    refine wpAnyH_take (i := 7) (oi := ⟨some 25, _, _, _, _, _⟩) (v := ?_) rfl (by kernel_rfl) (by kernel_rfl) (by kernel_rfl) (fun _ _ _ h => h) (Or.inl ⟨by kernel_rfl, ?_⟩) (by assumption) ?_
    rotate_left
    · (intro w hSw; (try dsimp only at hSw); go_simp; try with_reducible rfl)
    (try simp only [Act.put, List.setIfInBounds_toArray, List.set_cons_zero, List.set_cons_succ])
    obtain ⟨p0, p1, p2⟩ := three_heads HPI.out
    obtain ⟨fr⟩ : wI.frozen? ⟨P, 2, none⟩ = false ∧ True := ⟨by have e := HPI.out; simp [World.frozen?, e], trivial⟩
    have HX9 : Hid ((wI.setCell ⟨P, 2, none⟩ (.slice AI NI cI)).heap[X]? = some (.cells #[.int .i64 x.u, .int .i64 x.s, .int .i64 x.c, .slice B x.ps.length dd] 48 (0, 0))) := (Below.heap_setCell _ _ _ _ (show X ≠ P by omega)).trans HXI.out
    have HP9 : Hid ((wI.setCell ⟨P, 2, none⟩ (.slice AI NI cI)).heap[P]? = some (.cells #[.int .i64 f, .int .u32 m, .slice AI NI cI] 26 (0, 0))) := heap_setCell_mem _ _ _ _ _ _ _ HPI.out
    have HR9 : Hid ((wI.setCell ⟨P, 2, none⟩ (.slice AI NI cI)).heap[R]? = some (.cells #[.int .i64 0, .int .u32 0, .slice none 0 0] 26 (0, 0))) := (Below.heap_setCell _ _ _ _ (show R ≠ P by omega)).trans HRI.out
    refine wpAnyH_ready (rs := [8]) (by kernel_rfl) (by simp) ?_
    refine AllReadyH.cons (o := ⟨none, _, _, _, _, _⟩) rfl (fun K hK => ?_) AllReadyH.nil
    rw [if_pos (by kernel_rfl)]
    go_simp
    refine hK.out _ _ ?_ (fun hHeld => ?_)
    · exact four_heads HX9.out
    clear hK K p0 p1 p2
    (try simp only [Act.put, List.setIfInBounds_toArray, List.set_cons_zero, List.set_cons_succ])
    refine wpAnyH_done (by kernel_rfl) ?_ _
    obtain ⟨g0, g1, g2⟩ := three_heads HP9.out
    go_wp2_with (refine wpList_store_row rfl _ _ _ rfl R #[.int .i64 f, .int .u32 m, .slice AI NI cI] rfl rfl 26 _ HR9.out (Tryz.sizePn _ _ _) rfl (one3 _ _ _ _ _) ?_)
    refine bodyPost_ret (v := planA f m (.slice AI NI cI)) (results_cell_row rfl _ _ R _ _ _ _ rfl (setRow_heap _ _ _ _ _ _ HR9.out) Tryz.underlying26 rfl (Tryz.sizePn _ _ _)) rfl ?_
    have hend := pn_end (w := w) (W := wI) (P := P) (R := R) (l := putPl d x kk) (F := fun b => w3.heap.size ≤ b ∨ w3.heap.size ≤ b) HPN.out (by omega) (by omega) HBI.out HLT.out.1 (by omega) #[.int .i64 f, .int .u32 m, .slice AI NI cI]
    exact ⟨_, rfl, hend.1.mono fun b _ hb => by have := HB3.out.size; omega, hend.2⟩
  · rw [if_pos (by kernel_rfl)]
    go_simp
    go_at_call 124; refine (HCL.out _ hk0).mono ?_; rintro e wq ⟨vc, rfl, hps, hb⟩
    obtain ⟨Ac, dc, rfl⟩ := hps.form
    have hkA := hk0.trans (hb.mono hk0.size)
    have hsA := hk0.size
    refine hK.out _ _ ?_ (fun hHeld => ?_)
    · exact HX6.out _ hkA
    clear hK K
    (try simp only [Act.put, List.setIfInBounds_toArray, List.set_cons_zero, List.set_cons_succ])
    refine wpAnyH_ready (rs := [1, 5]) (by kernel_rfl) (by simp) ?_
    refine AllReadyH.cons (o := ⟨some 19, _, _, _, _, _⟩) rfl (fun K hK => ?_) (AllReadyH.cons (o := ⟨some 23, _, _, _, _, _⟩) rfl (fun K hK => ?_) AllReadyH.nil)
    · obtain ⟨p0, p1, p2⟩ := HP6.out _ hkA
      rw [if_pos (by kernel_rfl)]
      go_simp
      refine hK.out _ _ ?_ (fun hHeld => ?_)
      · exact HX6.out _ hkA
      clear hK K p0 p1 p2
      (try simp only [Act.put, List.setIfInBounds_toArray, List.set_cons_zero, List.set_cons_succ])
      refine wpAnyH_ready (rs := [5]) (by kernel_rfl) (by simp) ?_
      refine AllReadyH.cons (o := ⟨some 23, _, _, _, _, _⟩) rfl (fun K hK => ?_) AllReadyH.nil
      obtain ⟨wN, N, hwN, hN, hNl, hbN, hNb⟩ := box_any wq #[.int .i64 x.u, .int .i64 x.s, .int .i64 x.c, .slice Ac x.ps.length dc] 48
      have hkN := hkA.trans (hbN.mono hkA.size)
      rw [if_pos (by kernel_rfl)]
      go_simp
      refine hK.out _ _ ?_ (fun hHeld => ?_)
      · exact HX6.out _ hkN
      clear hK K
      (try simp only [Act.put, List.setIfInBounds_toArray, List.set_cons_zero, List.set_cons_succ])
      refine wpAnyH_ready (rs := [6]) (by kernel_rfl) (by simp) ?_
      refine AllReadyH.cons (o := ⟨some 24, _, _, _, _, _⟩) rfl (fun K hK => ?_) AllReadyH.nil
      have hrN := HROW.out.keep hkN
      have hoN := hrN.own
      have hne : (Value.slice A1 n c1).ownBlock ≠ some N := fun e => by have := own_lt (HROW.out.keep hkA).own e; omega
      have hpN : PcsIn (fun b => w3.heap.size ≤ b ∧ (Value.slice A1 n c1).ownBlock ≠ some b) wN (rpV ((Ac, dc), x)) x.ps := (hps.keep hbN).mono fun b _ hF => ⟨by have := HS5.out; have := HS4.out; omega, fun e => by have := own_lt HROW.out.own e; omega⟩
      have hIN := insert_any w3.heap.size (.slice A1 n c1) ls kk ((Ac, dc), x) N wN hoN HKN.out HLL.out (by have := hkN.size; have := HS5.out; have := HS4.out; omega) hNb hne
      unfold RetMp at hIN
      rw [if_pos (by kernel_rfl)]
      go_simp
      go_at_call 130; refine hIN.mono ?_; rintro e wI ⟨vI, rfl, hownI, hapI, hgrI⟩
      have hall := all_ins (k := kk) hrN.pcs hpN
      have hallI : AllPcs (fun b => w3.heap.size ≤ b ∧ (Value.slice A1 n c1).ownBlock ≠ some b) wI (ls.take kk ++ [((Ac, dc), x)] ++ ls.drop kk) := hall.keepF hapI.size fun b hb hF => hapI.block b hb hF.2
      have hold : ∀ b, b < w3.heap.size → wI.heap[b]? = w5.heap[b]? := fun b hb => (hapI.block b (by have := hkN.size; have := HS5.out; have := HS4.out; omega) (fun e => by have := own_base5 HROW.out.own b e; omega)).trans (hkN.block b (by have := HS5.out; have := HS4.out; omega))
      have HPI := Lib.hid ((hold P (by omega)).trans HP5.out)
      have HXI := Lib.hid ((hold X (by omega)).trans HX5.out)
      have HRI := Lib.hid ((hold R (by omega)).trans HR5.out)
      have HBI : Hid (Below w.heap.size w wI) := Lib.hid ((HB5.out.trans (hkN.mono HB5.out.size)).trans (hapI.below (by have := HB5.out.size; have := hkN.size; omega) fun b hb e => by have := own_base5 HROW.out.own b e; omega))
      obtain ⟨AI, cI, hvI⟩ := own_form hownI
      obtain ⟨NI, hNI⟩ : ∃ NI, (ls.take kk ++ [(((Ac, dc), x) : Rp)] ++ ls.drop kk).length = NI := ⟨_, rfl⟩
      rw [hNI] at hvI
      subst hvI
      have HPN := Lib.hid (pls_of_own hownI (hallI.mono (G := fun b => w3.heap.size ≤ b) fun b _ hF => hF.1))
      rw [ins_pls, HLS.out] at HPN
      refine hK.out _ _ ?_ (fun hHeld => ?_)
      · exact four_heads HXI.out
      clear hK K
      (try simp only [Act.put, List.setIfInBounds_toArray, List.set_cons_zero, List.set_cons_succ])
      clear hIN hoN hrN hpN hall hallI hapI hgrI hownI hold hNb hbN hwN
      refine wpAnyH_take (i := 7) (oi := ⟨some 25, _, _, _, _, _⟩) (v := ?_) rfl (by kernel_rfl) (by kernel_rfl) (by kernel_rfl) (fun _ _ _ h => h) (Or.inl ⟨by kernel_rfl, ?_⟩) (by assumption) ?_
      rotate_left
      · (intro w hSw; (try dsimp only at hSw); go_simp; try with_reducible rfl)
      (try simp only [Act.put, List.setIfInBounds_toArray, List.set_cons_zero, List.set_cons_succ])
      obtain ⟨p0, p1, p2⟩ := three_heads HPI.out
      obtain ⟨fr⟩ : wI.frozen? ⟨P, 2, none⟩ = false ∧ True := ⟨by have e := HPI.out; simp [World.frozen?, e], trivial⟩
      have HX9 : Hid ((wI.setCell ⟨P, 2, none⟩ (.slice AI NI cI)).heap[X]? = some (.cells #[.int .i64 x.u, .int .i64 x.s, .int .i64 x.c, .slice B x.ps.length dd] 48 (0, 0))) := (Below.heap_setCell _ _ _ _ (show X ≠ P by omega)).trans HXI.out
      have HP9 : Hid ((wI.setCell ⟨P, 2, none⟩ (.slice AI NI cI)).heap[P]? = some (.cells #[.int .i64 f, .int .u32 m, .slice AI NI cI] 26 (0, 0))) := heap_setCell_mem _ _ _ _ _ _ _ HPI.out
      have HR9 : Hid ((wI.setCell ⟨P, 2, none⟩ (.slice AI NI cI)).heap[R]? = some (.cells #[.int .i64 0, .int .u32 0, .slice none 0 0] 26 (0, 0))) := (Below.heap_setCell _ _ _ _ (show R ≠ P by omega)).trans HRI.out
      refine wpAnyH_ready (rs := [8]) (by kernel_rfl) (by simp) ?_
      refine AllReadyH.cons (o := ⟨none, _, _, _, _, _⟩) rfl (fun K hK => ?_) AllReadyH.nil
      rw [if_pos (by kernel_rfl)]
      go_simp
      refine hK.out _ _ ?_ (fun hHeld => ?_)
      · exact four_heads HX9.out
      clear hK K p0 p1 p2
      (try simp only [Act.put, List.setIfInBounds_toArray, List.set_cons_zero, List.set_cons_succ])
      refine wpAnyH_done (by kernel_rfl) ?_ _
      obtain ⟨g0, g1, g2⟩ := three_heads HP9.out
      go_wp2_with (refine wpList_store_row rfl _ _ _ rfl R #[.int .i64 f, .int .u32 m, .slice AI NI cI] rfl rfl 26 _ HR9.out (Tryz.sizePn _ _ _) rfl (one3 _ _ _ _ _) ?_)
      refine bodyPost_ret (v := planA f m (.slice AI NI cI)) (results_cell_row rfl _ _ R _ _ _ _ rfl (setRow_heap _ _ _ _ _ _ HR9.out) Tryz.underlying26 rfl (Tryz.sizePn _ _ _)) rfl ?_
      have hend := pn_end (w := w) (W := wI) (P := P) (R := R) (l := putPl d x kk) (F := fun b => w3.heap.size ≤ b ∨ w3.heap.size ≤ b) HPN.out (by omega) (by omega) HBI.out HLT.out.1 (by omega) #[.int .i64 f, .int .u32 m, .slice AI NI cI]
      exact ⟨_, rfl, hend.1.mono fun b _ hb => by have := HB3.out.size; omega, hend.2⟩
    · obtain ⟨wN, N, hwN, hN, hNl, hbN, hNb⟩ := box_any wq #[.int .i64 x.u, .int .i64 x.s, .int .i64 x.c, .slice Ac x.ps.length dc] 48
      have hkN := hkA.trans (hbN.mono hkA.size)
      rw [if_pos (by kernel_rfl)]
      go_simp
      refine hK.out _ _ ?_ (fun hHeld => ?_)
      · exact HX6.out _ hkN
      clear hK K
      (try simp only [Act.put, List.setIfInBounds_toArray, List.set_cons_zero, List.set_cons_succ])
      refine wpAnyH_ready (rs := [1]) (by kernel_rfl) (by simp) ?_
      refine AllReadyH.cons (o := ⟨some 19, _, _, _, _, _⟩) rfl (fun K hK => ?_) AllReadyH.nil
      obtain ⟨p0, p1, p2⟩ := HP6.out _ hkN
      rw [if_pos (by kernel_rfl)]
      go_simp
      refine hK.out _ _ ?_ (fun hHeld => ?_)
      · exact HX6.out _ hkN
      clear hK K p0 p1 p2
      (try simp only [Act.put, List.setIfInBounds_toArray, List.set_cons_zero, List.set_cons_succ])
      refine wpAnyH_ready (rs := [6]) (by kernel_rfl) (by simp) ?_
      refine AllReadyH.cons (o := ⟨some 24, _, _, _, _, _⟩) rfl (fun K hK => ?_) AllReadyH.nil
      have hrN := HROW.out.keep hkN
      have hoN := hrN.own
      have hne : (Value.slice A1 n c1).ownBlock ≠ some N := fun e => by have := own_lt (HROW.out.keep hkA).own e; omega
      have hpN : PcsIn (fun b => w3.heap.size ≤ b ∧ (Value.slice A1 n c1).ownBlock ≠ some b) wN (rpV ((Ac, dc), x)) x.ps := (hps.keep hbN).mono fun b _ hF => ⟨by have := HS5.out; have := HS4.out; omega, fun e => by have := own_lt HROW.out.own e; omega⟩
      have hIN := insert_any w3.heap.size (.slice A1 n c1) ls kk ((Ac, dc), x) N wN hoN HKN.out HLL.out (by have := hkN.size; have := HS5.out; have := HS4.out; omega) hNb hne
      unfold RetMp at hIN
      rw [if_pos (by kernel_rfl)]
      go_simp
      go_at_call 130; refine hIN.mono ?_; rintro e wI ⟨vI, rfl, hownI, hapI, hgrI⟩
      have hall := all_ins (k := kk) hrN.pcs hpN
      have hallI : AllPcs (fun b => w3.heap.size ≤ b ∧ (Value.slice A1 n c1).ownBlock ≠ some b) wI (ls.take kk ++ [((Ac, dc), x)] ++ ls.drop kk) := hall.keepF hapI.size fun b hb hF => hapI.block b hb hF.2
      have hold : ∀ b, b < w3.heap.size → wI.heap[b]? = w5.heap[b]? := fun b hb => (hapI.block b (by have := hkN.size; have := HS5.out; have := HS4.out; omega) (fun e => by have := own_base5 HROW.out.own b e; omega)).trans (hkN.block b (by have := HS5.out; have := HS4.out; omega))
      have HPI := Lib.hid ((hold P (by omega)).trans HP5.out)
      have HXI := Lib.hid ((hold X (by omega)).trans HX5.out)
      have HRI := Lib.hid ((hold R (by omega)).trans HR5.out)
      have HBI : Hid (Below w.heap.size w wI) := Lib.hid ((HB5.out.trans (hkN.mono HB5.out.size)).trans (hapI.below (by have := HB5.out.size; have := hkN.size; omega) fun b hb e => by have := own_base5 HROW.out.own b e; omega))
      obtain ⟨AI, cI, hvI⟩ := own_form hownI
      obtain ⟨NI, hNI⟩ : ∃ NI, (ls.take kk ++ [(((Ac, dc), x) : Rp)] ++ ls.drop kk).length = NI := ⟨_, rfl⟩
      rw [hNI] at hvI
      subst hvI
      have HPN := Lib.hid (pls_of_own hownI (hallI.mono (G := fun b => w3.heap.size ≤ b) fun b _ hF => hF.1))
      rw [ins_pls, HLS.out] at HPN
      refine hK.out _ _ ?_ (fun hHeld => ?_)
      · exact four_heads HXI.out
      clear hK K
      (try simp only [Act.put, List.setIfInBounds_toArray, List.set_cons_zero, List.set_cons_succ])
      clear hIN hoN hrN hpN hall hallI hapI hgrI hownI hold hNb hbN hwN
      refine wpAnyH_take (i := 7) (oi := ⟨some 25, _, _, _, _, _⟩) (v := ?_) rfl (by kernel_rfl) (by kernel_rfl) (by kernel_rfl) (fun _ _ _ h => h) (Or.inl ⟨by kernel_rfl, ?_⟩) (by assumption) ?_
      rotate_left
      · (intro w hSw; (try dsimp only at hSw); go_simp; try with_reducible rfl)
      (try simp only [Act.put, List.setIfInBounds_toArray, List.set_cons_zero, List.set_cons_succ])
      obtain ⟨p0, p1, p2⟩ := three_heads HPI.out
      obtain ⟨fr⟩ : wI.frozen? ⟨P, 2, none⟩ = false ∧ True := ⟨by have e := HPI.out; simp [World.frozen?, e], trivial⟩
      have HX9 : Hid ((wI.setCell ⟨P, 2, none⟩ (.slice AI NI cI)).heap[X]? = some (.cells #[.int .i64 x.u, .int .i64 x.s, .int .i64 x.c, .slice B x.ps.length dd] 48 (0, 0))) := (Below.heap_setCell _ _ _ _ (show X ≠ P by omega)).trans HXI.out
      have HP9 : Hid ((wI.setCell ⟨P, 2, none⟩ (.slice AI NI cI)).heap[P]? = some (.cells #[.int .i64 f, .int .u32 m, .slice AI NI cI] 26 (0, 0))) := heap_setCell_mem _ _ _ _ _ _ _ HPI.out
      have HR9 : Hid ((wI.setCell ⟨P, 2, none⟩ (.slice AI NI cI)).heap[R]? = some (.cells #[.int .i64 0, .int .u32 0, .slice none 0 0] 26 (0, 0))) := (Below.heap_setCell _ _ _ _ (show R ≠ P by omega)).trans HRI.out
      refine wpAnyH_ready (rs := [8]) (by kernel_rfl) (by simp) ?_
      refine AllReadyH.cons (o := ⟨none, _, _, _, _, _⟩) rfl (fun K hK => ?_) AllReadyH.nil
      rw [if_pos (by kernel_rfl)]
      go_simp
      refine hK.out _ _ ?_ (fun hHeld => ?_)
      · exact four_heads HX9.out
      clear hK K p0 p1 p2
      (try simp only [Act.put, List.setIfInBounds_toArray, List.set_cons_zero, List.set_cons_succ])
      refine wpAnyH_done (by kernel_rfl) ?_ _
      obtain ⟨g0, g1, g2⟩ := three_heads HP9.out
      go_wp2_with (refine wpList_store_row rfl _ _ _ rfl R #[.int .i64 f, .int .u32 m, .slice AI NI cI] rfl rfl 26 _ HR9.out (Tryz.sizePn _ _ _) rfl (one3 _ _ _ _ _) ?_)
      refine bodyPost_ret (v := planA f m (.slice AI NI cI)) (results_cell_row rfl _ _ R _ _ _ _ rfl (setRow_heap _ _ _ _ _ _ HR9.out) Tryz.underlying26 rfl (Tryz.sizePn _ _ _)) rfl ?_
      have hend := pn_end (w := w) (W := wI) (P := P) (R := R) (l := putPl d x kk) (F := fun b => w3.heap.size ≤ b ∨ w3.heap.size ≤ b) HPN.out (by omega) (by omega) HBI.out HLT.out.1 (by omega) #[.int .i64 f, .int .u32 m, .slice AI NI cI]
      exact ⟨_, rfl, hend.1.mono fun b _ hb => by have := HB3.out.size; omega, hend.2⟩
end Go.Proofs.YtpfpojehcjmfnaaGreat

/-
  slices.Clone, slices.DeleteFunc with whatever predicate.
  Conditions: the row is of the caller's own; the predicate, whatever the world, answers so, and leaves all that was.
-/
set_option linter.unusedVariables false
namespace Go.Proofs.YtpfpojehcjmfnaaGreat
open Go.RowKit

/-- slices.Clone. -/
theorem clone_any (v : Value) (ps : List Sp) (w : World) (h : SpansAt w v ps) :
    Calls Tryz.prog 125 #[v] w (RetO w.heap.size 52 ps w) := by
  obtain ⟨i0, hi, hz0, hz1, hz2⟩ := info_parts Tryz.infoSpan
  have hsp := h
  obtain ⟨A, c, rfl, hc1, hlen, hc2, hat⟩ := h
  have u24 := Tryz.underlying23
  cases A with
  | none =>
    have h0 : ps = [] := by
      rcases Nat.eq_zero_or_pos ps.length with h | h
      · exact List.eq_nil_of_length_eq_zero h
      · obtain ⟨b, off, e, _⟩ := hat h; cases e
    subst h0
    clear hat hsp
    have q22 : ∀ (w : World) (n c n' c' : Nat), (binOp .eql 23 (.slice none n c) (.slice none n' c')).run Tryz.prog w = .ok (.bool true) w := fun w n c n' c' => Lib.run_eql_slice_nil w _ _ none n c n' c' u24
    go_enter Tryz.func125, Tryz.ntmps125
    go_wp2
    go_ret
    exact ⟨_, rfl, World.ownsRow_nil _ _ _ _, Below.refl _ _⟩
  | some a =>
    have HAT := Lib.hid hat
    have HLEN := Lib.hid (spansCells_length ps)
    have hnews : Hid (∀ j u, (spansCells ps)[j]? = some u → w.cell? (a.add j) = some u) := by
      intro j u hj
      have hp : 0 < ps.length := by
        have := (List.getElem?_eq_some_iff.1 hj).1
        rw [spansCells_length] at this; omega
      obtain ⟨b, off, e, hbl, hcell⟩ := hat hp
      cases e
      have := spansCells_of hcell j u hj
      rw [Addr.add_lit]
      exact this
    have HONE := Lib.hid (spansCells_one ps)
    generalize hn : ps.length = n at *
    generalize hcs : spansCells ps = cs at *
    have q22 : ∀ (w : World) (n c n' c' : Nat), (binOp .eql 23 (.slice (some a) n c) (.slice none n' c')).run Tryz.prog w = .ok (.bool false) w := fun w n c n' c' => Lib.run_eql_slice_nil w _ _ (some a) n c n' c' u24
    have HO0 : Hid ((w.alloc (Obj.cells #[] 52)).ownsRow w.heap.size 52 2 (.slice (some ⟨w.heap.size, 0, none⟩) 0 0) 0 []) :=
      ⟨rfl, .inr ⟨w.heap.size, 0, #[], rfl, Nat.le_refl _, heap_alloc_new w _, Nat.le_refl _, Nat.zero_le _, rfl, rfl⟩⟩
    have HN := Lib.hid hn
    have HCS := Lib.hid hcs
    clear hat hsp hn hcs
    go_enter Tryz.func125, Tryz.ntmps125
    go_wp2_with (at_builtin; refine wpList_append_own _ rfl _ _ 23 rfl w.heap.size 52 i0 (.agg #[.int .i64 0, .int .i64 0]) 2 16 Tryz.underlying23 hi hz0 hz1 hz2 rfl (by decide) _ _ _ rfl HO0.out a n c cs rfl ?c0 ?c1 ?c2 ?c3 ?c4 ?c5 ?_)
    case c0 => exact HLEN.out
    case c1 =>
      intro j u hj
      have := hnews.out j u hj
      rw [Lib.cell?_alloc_some _ this]
    case c2 => exact HONE.out
    case c3 => unfold maxLen; omega
    case c4 => omega
    case c5 => simp
    intro v2 w2 hown2 hgrow _
    have HB2 := Lib.hid (((Below.refl _ w).alloc (Nat.le_refl _) (Obj.cells #[] 52)).trans (below_grown5 hgrow (by simp) (own_base5 HO0.out)))
    have HO2 := Lib.hid hown2
    clear hown2 hgrow
    go_wp2
    go_ret
    refine ⟨_, rfl, ?_, HB2.out⟩
    rw [HN.out, HCS.out]
    exact HO2.out
end Go.Proofs.YtpfpojehcjmfnaaGreat

/-
  cmp.Compare, cmp.Or, the program's compare and Ahead, the document's Ahead.
  Conditions: none.
-/
set_option linter.unusedVariables false
namespace Go.Proofs.YtpfpojehcjmfnaaGreat
open Go.RowKit Go.Sort

def orI (x y : Int) : Int := if x = 0 then y else x
theorem or_any (W : World) (b : Nat) (x y : Int) (c0 : W.cell? ⟨b, 0, none⟩ = some (.int .i64 x)) (c1 : W.cell? ⟨b, 1, none⟩ = some (.int .i64 y)) :
    Calls Tryz.prog 168 #[.slice (some ⟨b, 0, none⟩) 2 2] W (Ret (.int .i64 (orI x y)) W) := by
  by_cases hx : x = 0
  · by_cases hy : y = 0
    · have HR : Hid (orI x y = 0) := by show _ = _; unfold orI; rw [if_pos hx, hy]
      subst hx hy
      go_enter Tryz.func168, Tryz.ntmps168
      go_wp2_with fail
      go_loopg [5, 8] 2 (fun g _ s8 wr => wr = W ∧ ((g = 2 ∧ s8 = .int .i64 0) ∨ (g = 1 ∧ s8 = .int .i64 1) ∨ (g = 0 ∧ s8 = .int .i64 2)))
      case atStart => exact ⟨rfl, .inl ⟨rfl, rfl⟩⟩
      case round =>
        obtain ⟨hw, h | h | h⟩ := hrel
        · obtain ⟨rfl, rfl⟩ := h
          subst hw
          go_wp2_with fail
          go_roundg 1
          case measure => decide
          case rel => exact ⟨rfl, .inr (.inl ⟨rfl, by go_num⟩)⟩
        · obtain ⟨rfl, rfl⟩ := h
          subst hw
          go_wp2_with fail
          go_roundg 0
          case measure => decide
          case rel => exact ⟨rfl, .inr (.inr ⟨rfl, by go_num⟩)⟩
        · obtain ⟨rfl, rfl⟩ := h
          subst hw
          go_wp2
          go_ret
          exact ⟨ret_int HR.out.symm, rfl⟩
    · have HR : Hid (orI x y = y) := by show _ = _; unfold orI; rw [if_pos hx]
      subst hx
      have hyb : (y != 0) = true := by simpa using hy
      clear hy
      go_enter Tryz.func168, Tryz.ntmps168
      go_wp2_with fail
      go_loopg [5, 8] 2 (fun g _ s8 wr => wr = W ∧ ((g = 2 ∧ s8 = .int .i64 0) ∨ (g = 1 ∧ s8 = .int .i64 1)))
      case atStart => exact ⟨rfl, .inl ⟨rfl, rfl⟩⟩
      case round =>
        obtain ⟨hw, h | h⟩ := hrel
        · obtain ⟨rfl, rfl⟩ := h
          subst hw
          go_wp2_with fail
          go_roundg 1
          case measure => decide
          case rel => exact ⟨rfl, .inr ⟨rfl, by go_num⟩⟩
        · obtain ⟨rfl, rfl⟩ := h
          subst hw
          go_wp2
          go_ret
          exact ⟨ret_int HR.out.symm, rfl⟩
  · have HR : Hid (orI x y = x) := by show _ = _; unfold orI; rw [if_neg hx]
    have hxb : (x != 0) = true := by simpa using hx
    clear hx
    go_enter Tryz.func168, Tryz.ntmps168
    go_wp2_with fail
    go_loopg [5, 8] 2 (fun g _ s8 wr => wr = W ∧ (g = 2 ∧ s8 = .int .i64 0))
    case atStart => exact ⟨rfl, rfl, rfl⟩
    case round =>
      obtain ⟨hw, rfl, rfl⟩ := hrel
      subst hw
      go_wp2
      go_ret
      exact ⟨ret_int HR.out.symm, rfl⟩

/-- The order of the sort. -/
def cmpS (a b : Sp) : Int := orI (cmpI b.2 a.2) (cmpI a.1 b.1)
theorem cmpS_neg (a b : Sp) : decide (cmpS a b < 0) = aheadB a b := by
  unfold cmpS orI cmpI aheadB
  by_cases h1 : b.2 < a.2
  · simp [h1]
  · by_cases h2 : a.2 < b.2
    · simp [h1, h2]; omega
    · have e : a.2 = b.2 := by omega
      by_cases h3 : a.1 < b.1
      · simp [e, h3]
      · by_cases h4 : b.1 < a.1 <;> simp [e, h3, h4]

set_option maxRecDepth 100000 in
set_option maxHeartbeats 2000000 in
theorem compare_any (x y : Sp) (W : World) : Calls Tryz.prog 127 #[.agg #[.int .i64 x.1, .int .i64 x.2], .agg #[.int .i64 y.1, .int .i64 y.2]] W fun e w' => e = .returned (.int .i64 (cmpS x y)) ∧ ∃ q os', w' = grow (W.drewN q) os' := by
  have HC := Lib.hid (fun p q W => compareInt_any p q W)
  have HO := Lib.hid (fun W b x y c0 c1 => or_any W b x y c0 c1)
  have mixed : Tryz.prog.follows .mixedOrders = true := by kernel_rfl
  obtain ⟨x1, x2⟩ := x
  obtain ⟨y1, y2⟩ := y
  unfold cmpS
  simp only
  clear HC
  obtain ⟨cN, hcN⟩ : ∃ f : Int → Int → Int, cmpI = f := ⟨_, rfl⟩
  have HC : Hid (∀ p q W, Calls Tryz.prog 62 #[.int .i64 p, .int .i64 q] W (Ret (.int .i64 (cN p q)) W)) := by
    intro p q W; rw [← hcN]; exact compareInt_any p q W
  rw [hcN]
  clear hcN
  have HOW : Hid (Calls Tryz.prog 168 #[.slice (some ⟨W.heap.size + 1 + 1, 0, none⟩) 2 2] (((W.alloc (.cells #[.int .i64 x1, .int .i64 x2] 52)).alloc (.cells #[.int .i64 y1, .int .i64 y2] 52)).alloc (.cells #[.int .i64 (cN y2 x2), .int .i64 (cN x1 y1)] 3)).drew
      (Ret (.int .i64 (orI (cN y2 x2) (cN x1 y1))) (((W.alloc (.cells #[.int .i64 x1, .int .i64 x2] 52)).alloc (.cells #[.int .i64 y1, .int .i64 y2] 52)).alloc (.cells #[.int .i64 (cN y2 x2), .int .i64 (cN x1 y1)] 3)).drew)) :=
    HO.out _ _ _ _ (news_two _ (W.heap.size + 1 + 1) (by simp) 3 (cN y2 x2) (cN x1 y1) 0 _ rfl) (news_two _ (W.heap.size + 1 + 1) (by simp) 3 (cN y2 x2) (cN x1 y1) 1 _ rfl)
  generalize orI (cN y2 x2) (cN x1 y1) = rr at *
  clear HO
  go_enter Tryz.func127, Tryz.ntmps127
  go_wp2_with fail
  go_region_held3 (fun w' => w'.cell? ⟨W.heap.size, 0, none⟩ = some (.int .i64 x1) ∧ w'.cell? ⟨W.heap.size, 1, none⟩ = some (.int .i64 x2) ∧ w'.cell? ⟨W.heap.size + 1, 0, none⟩ = some (.int .i64 y1) ∧ w'.cell? ⟨W.heap.size + 1, 1, none⟩ = some (.int .i64 y2))
    (go_keep)
    (first
      | (go_at_call 62; refine (HC.out _ _ _).mono ?_; rintro e w' ⟨rfl, rfl⟩)
      | (go_at_call 168; refine HOW.out.mono ?_; rintro e w' ⟨rfl, rfl⟩))
  all_goals
    go_wp2
    go_ret
    exact ⟨rfl, 1, _, by rw [alloc_eq_grow, alloc_eq_grow, alloc_eq_grow, grow_grow, grow_grow]; rfl⟩

end Go.Proofs.YtpfpojehcjmfnaaGreat

/-
  DERIVED: THE SHELF's CONTRACTS AT THIS DUMP, IN PLAIN WORDS (tools/lay-plain.mjs out of 'TryShelf20sTryz.lean', which tools/lay-shelf.mjs wrote): THE SAME DECLARATIONS UNDER THE SAME NAMES: 'import', 'namespace', 'open', 'def', 'theorem' AND NOTHING ELSE: no command of the shelf's: FOR A HAND-IN. Each laying: the table of numbers ('.._ren') and one theorem, a field a fact of the dump's own or the kernel's comparison; each contract: ONE APPLICATION.
-/
namespace Go.Proofs
open Go.Shelf
def Tryz.sort5_ren : Go.Shelf.Ren := ⟨fun | 6 => 126 | 15 => 109 | 14 => 167 | 28 => 156 | 29 => 157 | 20 => 185 | 21 => 186 | 22 => 187 | 23 => 188 | 24 => 189 | 25 => 190 | 26 => 191 | 27 => 192 | 46 => 199 | 47 => 178 | 48 => 179 | 49 => 200 | 50 => 201 | 57 => 203 | n => n, fun | 22 => 23 | 24 => 52 | 25 => 168 | 3 => 3 | 39 => 154 | 0 => 0 | 53 => 22 | 55 => 82 | 4 => 4 | 46 => 181 | 45 => 180 | 50 => 41 | 5 => 5 | 9 => 9 | 66 => 205 | 70 => 209 | 76 => 219 | 77 => 220 | n => n, fun | n => n⟩
theorem Tryz.sort5 : Go.Proofs.SlLaysF0.n6 Tryz.prog Tryz.sort5_ren := {
  mixed := by kernel_rfl
  f6 := ⟨Tryz.f126.name, by decide, Tryz.func126.trans (congrArg some (by kernel_rfl))⟩
  f14 := ⟨Tryz.f167.name, by decide, Tryz.func167.trans (congrArg some (by kernel_rfl))⟩
  f15 := Tryz.func109.trans (congrArg some (by kernel_rfl))
  f20 := ⟨Tryz.f185.name, by decide, Tryz.func185.trans (congrArg some (by kernel_rfl))⟩
  f21 := ⟨Tryz.f186.name, by decide, Tryz.func186.trans (congrArg some (by kernel_rfl))⟩
  f22 := ⟨Tryz.f187.name, by decide, Tryz.func187.trans (congrArg some (by kernel_rfl))⟩
  f23 := ⟨Tryz.f188.name, by decide, Tryz.func188.trans (congrArg some (by kernel_rfl))⟩
  f24 := ⟨Tryz.f189.name, by decide, Tryz.func189.trans (congrArg some (by kernel_rfl))⟩
  f25 := ⟨Tryz.f190.name, by decide, Tryz.func190.trans (congrArg some (by kernel_rfl))⟩
  f26 := ⟨Tryz.f191.name, by decide, Tryz.func191.trans (congrArg some (by kernel_rfl))⟩
  f27 := ⟨Tryz.f192.name, by decide, Tryz.func192.trans (congrArg some (by kernel_rfl))⟩
  f28 := Tryz.func156.trans (congrArg some (by kernel_rfl))
  f29 := Tryz.func157.trans (congrArg some (by kernel_rfl))
  f46 := ⟨Tryz.f199.name, by decide, Tryz.func199.trans (congrArg some (by kernel_rfl))⟩
  f47 := Tryz.func178.trans (congrArg some (by kernel_rfl))
  f48 := Tryz.func179.trans (congrArg some (by kernel_rfl))
  f49 := ⟨Tryz.f200.name, by decide, Tryz.func200.trans (congrArg some (by kernel_rfl))⟩
  f50 := ⟨Tryz.f201.name, by decide, Tryz.func201.trans (congrArg some (by kernel_rfl))⟩
  f57 := ⟨Tryz.f203.name, by decide, Tryz.func203.trans (congrArg some (by kernel_rfl))⟩
  t0 := Tryz.underlying0
  a0 := Tryz.isAgg0
  z0 := Tryz.sizeOf0
  v0 := Tryz.zeroValue0
  t3 := Tryz.underlying3
  a3 := Tryz.isAgg3
  z3 := Tryz.sizeOf3
  v3 := Tryz.zeroValue3
  t4 := Tryz.underlying4
  a4 := Tryz.isAgg4
  z4 := Tryz.sizeOf4
  v4 := Tryz.zeroValue4
  t5 := Tryz.underlying5
  a5 := Tryz.isAgg5
  z5 := Tryz.sizeOf5
  v5 := Tryz.zeroValue5
  t9 := Tryz.underlying9
  a9 := Tryz.isAgg9
  z9 := Tryz.sizeOf9
  v9 := Tryz.zeroValue9
  t22 := Tryz.underlying23
  a22 := Tryz.isAgg23
  z22 := Tryz.sizeOf23
  v22 := Tryz.zeroValue23
  t25 := Tryz.underlying168
  a25 := Tryz.isAgg168
  z25 := Tryz.sizeOf168
  v25 := Tryz.zeroValue168
  t39 := Tryz.underlying154
  a39 := Tryz.isAgg154
  z39 := Tryz.sizeOf154
  v39 := Tryz.zeroValue154
  t45 := Tryz.underlying180
  a45 := Tryz.isAgg180
  z45 := Tryz.sizeOf180
  v45 := Tryz.zeroValue180
  t46 := Tryz.underlying181
  a46 := Tryz.isAgg181
  z46 := Tryz.sizeOf181
  v46 := Tryz.zeroValue181
  t50 := Tryz.underlying41
  a50 := Tryz.isAgg41
  z50 := Tryz.sizeOf41
  v50 := Tryz.zeroValue41
  t53 := Tryz.underlying22
  a53 := Tryz.isAgg22
  z53 := Tryz.sizeOf22
  v53 := Tryz.zeroValue22
  t55 := Tryz.underlying82
  a55 := Tryz.isAgg82
  z55 := Tryz.sizeOf82
  v55 := Tryz.zeroValue82
  t66 := Tryz.underlying205
  a66 := Tryz.isAgg205
  z66 := Tryz.sizeOf205
  v66 := Tryz.zeroValue205
  t70 := Tryz.underlying209
  a70 := Tryz.isAgg209
  z70 := Tryz.sizeOf209
  v70 := Tryz.zeroValue209
  t76 := Tryz.underlying219
  a76 := Tryz.isAgg219
  z76 := Tryz.sizeOf219
  v76 := Tryz.zeroValue219
  t77 := Tryz.underlying220
  a77 := Tryz.isAgg220
  z77 := Tryz.sizeOf220
  v77 := Tryz.zeroValue220 }
end Go.Proofs

/-
  slices.SortFunc of wants by compare; Sort of the program.
  Conditions: the row is of the caller's own.
-/
set_option linter.unusedVariables false
namespace Go.Proofs.YtpfpojehcjmfnaaGreat
open Go.RowKit Go.Sort Go.Lib

theorem flat_spans (ps : List Sp) : flatK spanCells 2 ps.toArray = (spansCells ps).toArray := by
  apply Array.ext
  · simp [spansCells_length]
  · intro t h1 h2
    have ht : t < ps.length * 2 := by simpa [spansCells_length] using h2
    have hj : t / 2 < ps.length := by omega
    obtain ⟨g1, g2⟩ := spansCells_get ps (t / 2) _ (List.getElem?_eq_getElem hj)
    have e0 : (flatK spanCells 2 ps.toArray)[t]'h1 = (flatK spanCells 2 ps.toArray)[t]! := (getElem!_pos _ t h1).symm
    rw [e0, get_flatK _ _ _ _ (by simpa using ht)]
    have e1 : ps.toArray[t / 2]! = ps[t / 2] := by rw [getElem!_pos ps.toArray (t / 2) (by simpa using hj)]; simp
    rw [e1]
    have e2 : ((spansCells ps).toArray)[t]'h2 = (spansCells ps)[t]'(by simpa using h2) := by simp
    rw [e2]
    rcases Nat.mod_two_eq_zero_or_one t with h | h
    · rw [h]
      have : t / 2 * 2 = t := by omega
      rw [this] at g1
      have := (List.getElem?_eq_some_iff.1 g1).2
      rw [this]; rfl
    · rw [h]
      have : t / 2 * 2 + 1 = t := by omega
      rw [this] at g2
      have := (List.getElem?_eq_some_iff.1 g2).2
      rw [this]; rfl

theorem heap_put {w : World} {g n e : Nat} {os : Array Obj} {cur F : Array Value} (h : w.heap[g]? = some (.cells cur e (0, 0))) :
    (grow (putRow id (Sort.ahead w n) g 0 F) os).heap[g]? = some (.cells (putCells id 0 F cur) e (0, 0)) := by
  have hlt : g < w.heap.size := (Array.getElem?_eq_some_iff.1 h).1
  unfold grow putRow mapBlock Sort.ahead
  show ((w.heap.modify g _) ++ os)[g]? = _
  rw [Array.getElem?_append_left (by simpa using hlt), Array.getElem?_modify, if_pos rfl, h]
  rfl
theorem take_put (cur : Array Value) (F : List Value) (h : F.length ≤ cur.size) : (putCells id 0 F.toArray cur).toList.take F.length = F := by
  apply List.ext_getElem?
  intro j
  by_cases hj : j < F.length
  · rw [List.getElem?_take_of_lt hj, Array.getElem?_toList]
    simp [putCells, hj, show j < cur.size by omega]
  · rw [List.getElem?_take_eq_none (by omega), List.getElem?_eq_none (by omega)]
theorem below_put {w : World} {base g n : Nat} {os : Array Obj} {F : Array Value} (hg : base ≤ g) (hb : base ≤ w.heap.size) : Below base w (grow (putRow id (Sort.ahead w n) g 0 F) os) := by
  refine ⟨rfl, rfl, rfl, ?_, fun k hk => ?_⟩
  · simp [grow, putRow, mapBlock, Sort.ahead]
  · unfold grow putRow mapBlock Sort.ahead
    show ((w.heap.modify g _) ++ os)[k]? = _
    rw [Array.getElem?_append_left (by simp; omega), Array.getElem?_modify, if_neg (by omega)]

theorem ltS (x y : Sp) : ltOf cmpS x y = aheadB x y := cmpS_neg x y
theorem swoS : SWO (ltOf cmpS) where
  irrefl x := by rw [ltS]; exact ahead_irr x
  trans x y z h1 h2 := by rw [ltS] at *; exact ahead_trans h1 h2
  ntrans x y z h1 h2 := by rw [ltS] at *; rw [ahead_no] at *; omega

theorem sortFunc_any (base : Nat) (v : Value) (ps : List Sp) (w : World) (h : w.ownsRow base 52 2 v ps.length (spansCells ps)) (hl : ps.length ≤ 2000000) (hbase : base ≤ w.heap.size) :
    Calls Tryz.prog 126 #[v, .func (.func 127) #[] #[]] w
      (fun e w' => e = .returned (.tuple #[]) ∧ w'.ownsRow base 52 2 v ps.length (spansCells (sortT ps)) ∧ Below base w w') := by
  rcases Nat.eq_zero_or_pos ps.length with h0 | hpos
  · have : ps = [] := List.eq_nil_of_length_eq_zero h0
    subst this
    have hv : ∃ p cap, v = .slice p 0 cap := by
      rcases h.2 with ⟨h1, _⟩ | ⟨g, cap, cur, h1, _⟩
      · exact ⟨_, _, h1⟩
      · exact ⟨_, _, h1⟩
    obtain ⟨p, cap, rfl⟩ := hv
    refine (AnyF.slices_SortFunc_none Tryz.sort5 p cap _ w).mono ?_
    rintro e w' ⟨rfl, rfl⟩
    exact ⟨rfl, h, Below.refl _ _⟩
  · obtain ⟨g, cap, rfl, hbg, hgl, hncap, hcm, hat, hfr⟩ := own_lies h hpos
    have eg : ∀ args w, (callFunc 127 args).run Tryz.prog w = .ok (.enter 127 args) w := enters_of Tryz.func127 (by kernel_rfl) rfl
    have hH : HoldsK spanCells 2 w g 0 ps.toArray := by
      unfold HoldsK
      rw [flat_spans]
      intro j hj
      have hj' : j < ps.length * 2 := by simpa [spansCells_length] using hj
      rw [Nat.zero_add]
      refine ⟨?_, hfr j hj'⟩
      have := spansCells_of (W := w) (b := g) (off := 0) (ps := ps) (fun i p hp => by rw [Nat.zero_add]; exact hat i p hp) j ((spansCells ps)[j]'(by rw [spansCells_length]; exact hj')) (List.getElem?_eq_getElem _)
      rw [Nat.zero_add] at this
      rw [this]
      congr 1
      rw [getElem!_pos _ j hj]
      simp
    have hcon := AnyQ.slices_SortFunc Tryz.sort5 2 Tryz.isAgg52 Tryz.sizeOf52 spanCells (fun _ => rfl) (fun x v hv => by simp [spanCells] at hv; rcases hv with rfl | rfl <;> rfl) cmpS swoS 127 #[] g 0 cap ps.toArray w eg
      (fun m os dk hs x y => compare_any x y _) hH hgl (by simp; omega)
    have hsz : ps.toArray.size = ps.length := by simp
    rw [hsz] at hcon
    refine Calls.mono hcon ?_
    rintro e w' ⟨rfl, d', n, os, hp, hs, rfl⟩
    obtain ⟨p1, p2, p3⟩ := hp
    have hlen : d'.toList.length = ps.length := by rw [Array.length_toList, p1, hsz]
    have hper : d'.toList.Perm ps := by
      have e1 : (d'.extract 0 ps.length).toList = d'.toList := by rw [← hlen]; simp
      have e2 : (ps.toArray.extract 0 ps.length).toList = ps := by simp
      rw [e1, e2] at p3
      exact p3
    have hsor : SortedS d'.toList := by
      unfold SortedS
      rw [List.pairwise_iff_getElem]
      intro i j hi hj hij
      have := hs i j (Nat.zero_le _) hij (by omega)
      rw [ltS] at this
      have e1 : d'[i]! = d'.toList[i] := by rw [getElem!_pos d' i (by rw [← Array.length_toList]; exact hi)]; simp
      have e2 : d'[j]! = d'.toList[j] := by rw [getElem!_pos d' j (by rw [← Array.length_toList]; exact hj)]; simp
      rw [e1, e2] at this
      simpa using this
    have hse : d'.toList = sortT ps := sort_eq hsor hper
    refine ⟨rfl, ?_, ?_⟩
    · obtain ⟨h1, h2⟩ := h
      rcases h2 with ⟨h2, _⟩ | ⟨g', cap', cur, hv, hg, hh, hn, hc, hs', ht⟩
      · cases h2
      · injection hv with e1 e2 e3
        injection e1 with e1
        injection e1 with e1
        subst e1 e3
        rw [← hse]
        have hF : (flatK spanCells 2 d') = (spansCells d'.toList).toArray := by
          have := flat_spans d'.toList
          simpa using this
        refine ⟨by rw [spansCells_length, hlen], .inr ⟨g, cap, _, rfl, hbg, heap_put hh, hn, hc, by simp [putCells, hs'], ?_⟩⟩
        rw [hF]
        have hl2 : (spansCells d'.toList).length = ps.length * 2 := by rw [spansCells_length, hlen]
        rw [← hl2]
        exact take_put cur _ (by rw [hl2, hs']; omega)
    · exact below_put hbg hbase

/-- Sort of the program. -/
theorem sort_any (v : Value) (ps : List Sp) (w : World) (h : SpansAt w v ps) :
    Calls Tryz.prog 79 #[v] w (RetO w.heap.size 52 (sortT ps) w) := by
  have HL := Lib.hid h.len
  have HC := Lib.hid (clone_any v ps w h)
  clear h
  go_enter Tryz.func79, Tryz.ntmps79
  go_wp2_with fail
  refine HC.out.mono ?_
  rintro e w1 ⟨v1, rfl, hown1, hb1⟩
  have HS := Lib.hid (sortFunc_any w.heap.size v1 ps w1 hown1 HL.out hb1.size)
  have HB1 := Lib.hid hb1
  clear hown1 hb1
  go_wp2_with fail
  refine HS.out.mono ?_
  rintro e w2 ⟨rfl, hown2, hb2⟩
  have HB2 := Lib.hid (HB1.out.trans hb2)
  have HO2 := Lib.hid hown2
  clear hown2 hb2
  go_wp2
  go_ret
  refine ⟨_, rfl, ?_, HB2.out⟩
  rw [sortT_length]
  exact HO2.out
end Go.Proofs.YtpfpojehcjmfnaaGreat
