/-
  slices.Clone, slices.DeleteFunc with whatever predicate.
  Conditions: the row is of the caller's own; the predicate, whatever the world, answers so, and leaves all that was.
-/
import Derived.Test.YtpfpojehcjmfnaaM18
import Derived.Test.YtpfpojehcjmfnaaM03
import Derived.Lib.SliceRun

/-
  Put of the program.
  Conditions: the slices read as places, as pieces; where the place belongs is told.
-/
set_option linter.unusedVariables false
set_option linter.unusedSimpArgs false
namespace Go.Proofs.Ytpfpojehcjmfnaa
open Go.RowKit Go.Sort

theorem ins_pls (ls : List Rp) (k : Nat) (r : Rp) : plsR (ls.take k ++ [r] ++ ls.drop k) = putPl (plsR ls) r.2 k := by rw [plsR_append, plsR_append, plsR_take, plsR_drop]; rfl
theorem all_ins {F : Nat → Prop} {W : World} {ls : List Rp} {k : Nat} {r : Rp} (h : AllPcs F W ls) (hr : PcsIn F W (rpV r) r.2.ps) : AllPcs F W (ls.take k ++ [r] ++ ls.drop k) := fun y hy => by
  rcases List.mem_append.1 hy with hy | hy
  · rcases List.mem_append.1 hy with hy | hy
    · exact h y (List.mem_of_mem_take hy)
    · rw [List.mem_singleton.1 hy]; exact hr
  · exact h y (List.mem_of_mem_drop hy)

set_option maxRecDepth 100000 in
set_option maxHeartbeats 8000000 in
theorem planPut_any (f : Int) (m : Nat) (v vx : Value) (l : List Pl) (x : Pl) (w : World) (h : PlsAt w v l) (hx : PcsAt w vx x.ps) (hl : l.length ≤ 999) (hp : ∀ y ∈ l, y.ps.length ≤ 1000) (hxl : x.ps.length ≤ 1000) (kk : Nat) (hk : PutAt (dropT l x.u) x.u kk) :
    Calls Try.prog 17 #[planA f m v, plA vx x] w (RetPn (fun b => w.heap.size ≤ b) f m (putPl (dropT l x.u) x kk) w) := by
  have mixed : Try.prog.follows .mixedOrders = true := by kernel_rfl
  obtain ⟨B, dd, rfl⟩ := hx.form
  obtain ⟨w1, P, hw1, hP, hPl, hb1, hbox⟩ := box_any w #[.int .i64 f, .int .u32 m, v] 28
  obtain ⟨w2, X, hw2, hX, hXl, hb2, hxox⟩ := box_any w1 #[.int .i64 x.u, .int .i64 x.s, .int .i64 x.c, .slice B x.ps.length dd] 41
  obtain ⟨w3, R, hw3, hR, hRl, hb3, hrox⟩ := box_any w2 #[.int .i64 0, .int .u32 0, .slice none 0 0] 28
  have HB3 := Lib.hid ((hb1.trans (hb2.mono hb1.size)).trans (hb3.mono (Nat.le_trans hb1.size hb2.size)))
  have HPB := Lib.hid (keep_block (keep_block hbox hb2) hb3)
  have HXB := Lib.hid (keep_block hxox hb3)
  have HRB := Lib.hid hrox
  have HLT := Lib.hid (show w.heap.size ≤ P ∧ P < X ∧ X < R ∧ R < w3.heap.size by have := hb1.size; have := hb2.size; omega)
  have HXP := Lib.hid hx
  have HXL := Lib.hid hxl
  have HD := Lib.hid (planDrop_any f m v l x.u w3 (h.keep HB3.out) (by omega) hp)
  have hdl : (dropT l x.u).length ≤ 999 := Nat.le_trans (drop_le _ _) hl
  obtain ⟨p0, p1, p2⟩ := three_heads HPB.out
  obtain ⟨x0, x1, x2, x3⟩ := four_heads HXB.out
  unfold planA at HD ⊢
  unfold plA
  have HK := Lib.hid hk
  unfold RetRow planA at HD
  generalize dropT l x.u = d at *
  have HDL := Lib.hid hdl
  clear h hx hl hp hk hb1 hb2 hb3 hbox hxox hrox hxl
  go_enter Try.func17, Try.ntmps17
  go_wp2_with fail
  refine HD.out.mono ?_
  rintro e w4 ⟨v1, ls, rfl, hls, hrow, hb4⟩
  obtain ⟨A1, c1, hv1⟩ := own_form hrow.own
  obtain ⟨n, hn⟩ : ∃ n, ls.length = n := ⟨_, rfl⟩
  rw [hn] at hv1
  subst hv1
  have HLS := Lib.hid hls
  have HN := Lib.hid hn
  have HB4 := Lib.hid (HB3.out.trans (hb4.mono HB3.out.size))
  have HP4 := Lib.hid (keep_block HPB.out hb4)
  have HX4 := Lib.hid (keep_block HXB.out hb4)
  have HR4 := Lib.hid (keep_block HRB.out hb4)
  have hlt := HLT.out
  have hs4 := hb4.size
  have HS4 := Lib.hid hs4
  obtain ⟨w5, hw5⟩ : ∃ w5, w4.setRow P #[.int .i64 f, .int .u32 m, .slice A1 n c1] = w5 := ⟨_, rfl⟩
  have HS5 : Hid (w5.heap.size = w4.heap.size) := Lib.hid (by rw [← hw5]; simp)
  have HB5 : Hid (Below w.heap.size w w5) := Lib.hid (by rw [← hw5]; exact below_row HB4.out hlt.1 _)
  have HP5 : Hid (w5.heap[P]? = some (.cells #[.int .i64 f, .int .u32 m, .slice A1 n c1] 28 (0, 0))) := Lib.hid (by rw [← hw5]; exact setRow_heap _ _ _ _ _ _ HP4.out)
  have HX5 : Hid (w5.heap[X]? = some (.cells #[.int .i64 x.u, .int .i64 x.s, .int .i64 x.c, .slice B x.ps.length dd] 41 (0, 0))) := Lib.hid (by rw [← hw5]; exact (setRow_other _ _ _ _ (by omega)).trans HX4.out)
  have HR5 : Hid (w5.heap[R]? = some (.cells #[.int .i64 0, .int .u32 0, .slice none 0 0] 28 (0, 0))) := Lib.hid (by rw [← hw5]; exact (setRow_other _ _ _ _ (by omega)).trans HR4.out)
  have HXP5 : Hid (PcsAt w5 (.slice B x.ps.length dd) x.ps) := Lib.hid (by
    rw [← hw5]
    exact (((HXP.out.mono (G := fun b => b < w.heap.size) fun b hb _ => hb).keep HB4.out).setRow (.inl fun h => by omega)).any)
  have HROW : Hid (RowPl w5 w3.heap.size (fun b => w3.heap.size ≤ b) (.slice A1 n c1) ls) := Lib.hid (by
    rw [← hw5]
    exact hrow.at_base (Nat.le_refl _) (by simp) fun b hb => setRow_other _ _ _ _ (by omega))
  have HPL := Lib.hid (pls_of_own HROW.out.own HROW.out.pcs)
  rw [HLS.out] at HPL
  have HBS := Lib.hid (binary_any (.slice A1 n c1) (.slice B x.ps.length dd) d x.u x.s x.c kk w5 HPL.out.any (by have := HDL.out; omega) HK.out)
  clear hb4 p0 p1 p2 x0 x1 x2 x3 hw1 hP hw2 hX hw3 hR hs4 hrow hls
  obtain ⟨p0, p1, p2⟩ := three_heads HP5.out
  obtain ⟨x0, x1, x2, x3⟩ := four_heads HX5.out
  go_wp2_with (refine wpList_store_row rfl _ _ _ rfl P #[.int .i64 f, .int .u32 m, .slice A1 n c1] rfl rfl 28 _ HP4.out (Try.sizePn _ _ _) rfl (one3 _ _ _ _ _) ?_)
  refine HBS.out.mono ?_
  rintro e w6 ⟨fd, rfl, hb6⟩
  have HK6 := Lib.hid hb6
  have HCL := Lib.hid (fun W (hk : Below w5.heap.size w5 W) => clonePl_any (.slice B x.ps.length dd) x W (HXP5.out.keep hk) HXL.out)
  unfold RetPl plA at HCL
  have HX6 := Lib.hid (fun W (hk : Below w5.heap.size w5 W) => four_heads (keep_block HX5.out hk))
  have HP6 := Lib.hid (fun W (hk : Below w5.heap.size w5 W) => three_heads (keep_block HP5.out hk))
  have hk0 : Below w5.heap.size w5 w6.drew := HK6.out.drew
  have HKN : Hid (kk ≤ ls.length) := Lib.hid (by rw [← plsR_length, HLS.out]; exact HK.out.le)
  have HLL : Hid (ls.length ≤ 1000) := Lib.hid (by rw [← plsR_length, HLS.out]; have := HDL.out; omega)
  clear hb6 p0 p1 p2 x0 x1 x2 x3 hw5
  go_wp2_with fail
  refine wp_region_held_drew (S := fun w' => w'.cell? ⟨X, 0, none⟩ = some (.int .i64 x.u) ∧ w'.cell? ⟨X, 1, none⟩ = some (.int .i64 x.s) ∧ w'.cell? ⟨X, 2, none⟩ = some (.int .i64 x.c) ∧ w'.cell? ⟨X, 3, none⟩ = some (.slice B x.ps.length dd)) (by kernel_rfl) ?_ (fun hHeld => ?_)
  · exact HX6.out _ hk0
  refine wpAnyH_take (i := 0) (oi := ⟨some 18, _, _, _, _, _⟩) (v := ?_) rfl (by kernel_rfl) (by kernel_rfl) (by kernel_rfl) (fun _ _ _ h => h) (Or.inl ⟨by kernel_rfl, ?_⟩) (by assumption) ?_
  rotate_left
  · (intro w hSw; (try dsimp only at hSw); go_simp; try with_reducible rfl)
  (try simp only [Act.put, List.setIfInBounds_toArray, List.set_cons_zero, List.set_cons_succ])
  refine wpAnyH_take (i := 2) (oi := ⟨some 20, _, _, _, _, _⟩) (v := ?_) rfl (by kernel_rfl) (by kernel_rfl) (by kernel_rfl) (fun _ _ _ h => h) (Or.inl ⟨by kernel_rfl, ?_⟩) (by assumption) ?_
  rotate_left
  · (intro w hSw; (try dsimp only at hSw); go_simp; try with_reducible rfl)
  (try simp only [Act.put, List.setIfInBounds_toArray, List.set_cons_zero, List.set_cons_succ])
  refine wpAnyH_take (i := 3) (oi := ⟨some 21, _, _, _, _, _⟩) (v := ?_) rfl (by kernel_rfl) (by kernel_rfl) (by kernel_rfl) (fun _ _ _ h => h) (Or.inl ⟨by kernel_rfl, ?_⟩) (by assumption) ?_
  rotate_left
  · (intro w hSw; (try dsimp only at hSw); go_simp; try with_reducible rfl)
  (try simp only [Act.put, List.setIfInBounds_toArray, List.set_cons_zero, List.set_cons_succ])
  refine wpAnyH_ready (rs := [1, 4]) (by kernel_rfl) (by simp) ?_
  refine AllReadyH.cons (o := ⟨some 19, _, _, _, _, _⟩) rfl (fun K hK => ?_) (AllReadyH.cons (o := ⟨some 22, _, _, _, _, _⟩) rfl (fun K hK => ?_) AllReadyH.nil)
  · obtain ⟨p0, p1, p2⟩ := HP6.out _ hk0
    rw [if_pos (by kernel_rfl)]
    go_simp
    refine hK.out _ _ ?_ (fun hHeld => ?_)
    · exact HX6.out _ hk0
    clear hK K p0 p1 p2
    (try simp only [Act.put, List.setIfInBounds_toArray, List.set_cons_zero, List.set_cons_succ])
    refine wpAnyH_ready (rs := [4]) (by kernel_rfl) (by simp) ?_
    refine AllReadyH.cons (o := ⟨some 22, _, _, _, _, _⟩) rfl (fun K hK => ?_) AllReadyH.nil
    rw [if_pos (by kernel_rfl)]
    go_simp
    go_at_call 24; refine (HCL.out _ hk0).mono ?_; rintro e wq ⟨vc, rfl, hps, hb⟩
    obtain ⟨Ac, dc, rfl⟩ := hps.form
    have hkA := hk0.trans (hb.mono hk0.size)
    have hsA := hk0.size
    refine hK.out _ _ ?_ (fun hHeld => ?_)
    · exact HX6.out _ hkA
    clear hK K
    (try simp only [Act.put, List.setIfInBounds_toArray, List.set_cons_zero, List.set_cons_succ])
    refine wpAnyH_ready (rs := [5]) (by kernel_rfl) (by simp) ?_
    refine AllReadyH.cons (o := ⟨some 23, _, _, _, _, _⟩) rfl (fun K hK => ?_) AllReadyH.nil
    obtain ⟨wN, N, hwN, hN, hNl, hbN, hNb⟩ := box_any wq #[.int .i64 x.u, .int .i64 x.s, .int .i64 x.c, .slice Ac x.ps.length dc] 41
    have hkN := hkA.trans (hbN.mono hkA.size)
    rw [if_pos (by kernel_rfl)]
    go_simp
    refine hK.out _ _ ?_ (fun hHeld => ?_)
    · exact HX6.out _ hkN
    clear hK K
    (try simp only [Act.put, List.setIfInBounds_toArray, List.set_cons_zero, List.set_cons_succ])
    refine wpAnyH_ready (rs := [6]) (by kernel_rfl) (by simp) ?_
    refine AllReadyH.cons (o := ⟨some 24, _, _, _, _, _⟩) rfl (fun K hK => ?_) AllReadyH.nil
    have hrN := HROW.out.keep hkN
    have hoN := hrN.own
    have hne : (Value.slice A1 n c1).ownBlock ≠ some N := fun e => by have := own_lt (HROW.out.keep hkA).own e; omega
    have hpN : PcsIn (fun b => w3.heap.size ≤ b ∧ (Value.slice A1 n c1).ownBlock ≠ some b) wN (rpV ((Ac, dc), x)) x.ps := (hps.keep hbN).mono fun b _ hF => ⟨by have := HS5.out; have := HS4.out; omega, fun e => by have := own_lt HROW.out.own e; omega⟩
    have hIN := insert_any w3.heap.size (.slice A1 n c1) ls kk ((Ac, dc), x) N wN hoN HKN.out HLL.out (by have := hkN.size; have := HS5.out; have := HS4.out; omega) hNb hne
    unfold RetMp at hIN
    rw [if_pos (by kernel_rfl)]
    go_simp
    go_at_call 32; refine hIN.mono ?_; rintro e wI ⟨vI, rfl, hownI, hapI, hgrI⟩
    have hall := all_ins (k := kk) hrN.pcs hpN
    have hallI : AllPcs (fun b => w3.heap.size ≤ b ∧ (Value.slice A1 n c1).ownBlock ≠ some b) wI (ls.take kk ++ [((Ac, dc), x)] ++ ls.drop kk) := hall.keepF hapI.size fun b hb hF => hapI.block b hb hF.2
    have hold : ∀ b, b < w3.heap.size → wI.heap[b]? = w5.heap[b]? := fun b hb => (hapI.block b (by have := hkN.size; have := HS5.out; have := HS4.out; omega) (fun e => by have := own_base5 HROW.out.own b e; omega)).trans (hkN.block b (by have := HS5.out; have := HS4.out; omega))
    have HPI := Lib.hid ((hold P (by omega)).trans HP5.out)
    have HXI := Lib.hid ((hold X (by omega)).trans HX5.out)
    have HRI := Lib.hid ((hold R (by omega)).trans HR5.out)
    have HBI : Hid (Below w.heap.size w wI) := Lib.hid ((HB5.out.trans (hkN.mono HB5.out.size)).trans (hapI.below (by have := HB5.out.size; have := hkN.size; omega) fun b hb e => by have := own_base5 HROW.out.own b e; omega))
    obtain ⟨AI, cI, hvI⟩ := own_form hownI
    obtain ⟨NI, hNI⟩ : ∃ NI, (ls.take kk ++ [(((Ac, dc), x) : Rp)] ++ ls.drop kk).length = NI := ⟨_, rfl⟩
    rw [hNI] at hvI
    subst hvI
    have HPN := Lib.hid (pls_of_own hownI (hallI.mono (G := fun b => w3.heap.size ≤ b) fun b _ hF => hF.1))
    rw [ins_pls, HLS.out] at HPN
    refine hK.out _ _ ?_ (fun hHeld => ?_)
    · exact four_heads HXI.out
    clear hK K
    (try simp only [Act.put, List.setIfInBounds_toArray, List.set_cons_zero, List.set_cons_succ])
    clear hIN hoN hrN hpN hall hallI hapI hgrI hownI hold hNb hbN hwN
    refine wpAnyH_take (i := 7) (oi := ⟨some 25, _, _, _, _, _⟩) (v := ?_) rfl (by kernel_rfl) (by kernel_rfl) (by kernel_rfl) (fun _ _ _ h => h) (Or.inl ⟨by kernel_rfl, ?_⟩) (by assumption) ?_
    rotate_left
    · (intro w hSw; (try dsimp only at hSw); go_simp; try with_reducible rfl)
    (try simp only [Act.put, List.setIfInBounds_toArray, List.set_cons_zero, List.set_cons_succ])
    obtain ⟨p0, p1, p2⟩ := three_heads HPI.out
    obtain ⟨fr⟩ : wI.frozen? ⟨P, 2, none⟩ = false ∧ True := ⟨by have e := HPI.out; simp [World.frozen?, e], trivial⟩
    have HX9 : Hid ((wI.setCell ⟨P, 2, none⟩ (.slice AI NI cI)).heap[X]? = some (.cells #[.int .i64 x.u, .int .i64 x.s, .int .i64 x.c, .slice B x.ps.length dd] 41 (0, 0))) := (Below.heap_setCell _ _ _ _ (show X ≠ P by omega)).trans HXI.out
    have HP9 : Hid ((wI.setCell ⟨P, 2, none⟩ (.slice AI NI cI)).heap[P]? = some (.cells #[.int .i64 f, .int .u32 m, .slice AI NI cI] 28 (0, 0))) := heap_setCell_mem _ _ _ _ _ _ _ HPI.out
    have HR9 : Hid ((wI.setCell ⟨P, 2, none⟩ (.slice AI NI cI)).heap[R]? = some (.cells #[.int .i64 0, .int .u32 0, .slice none 0 0] 28 (0, 0))) := (Below.heap_setCell _ _ _ _ (show R ≠ P by omega)).trans HRI.out
    refine wpAnyH_ready (rs := [8]) (by kernel_rfl) (by simp) ?_
    refine AllReadyH.cons (o := ⟨none, _, _, _, _, _⟩) rfl (fun K hK => ?_) AllReadyH.nil
    rw [if_pos (by kernel_rfl)]
    go_simp
    refine hK.out _ _ ?_ (fun hHeld => ?_)
    · exact four_heads HX9.out
    clear hK K p0 p1 p2
    (try simp only [Act.put, List.setIfInBounds_toArray, List.set_cons_zero, List.set_cons_succ])
    refine wpAnyH_done (by kernel_rfl) ?_ _
    obtain ⟨g0, g1, g2⟩ := three_heads HP9.out
    go_wp2_with (refine wpList_store_row rfl _ _ _ rfl R #[.int .i64 f, .int .u32 m, .slice AI NI cI] rfl rfl 28 _ HR9.out (Try.sizePn _ _ _) rfl (one3 _ _ _ _ _) ?_)
    refine bodyPost_ret (v := planA f m (.slice AI NI cI)) (results_cell_row rfl _ _ R _ _ _ _ rfl (setRow_heap _ _ _ _ _ _ HR9.out) Try.underlying28 rfl (Try.sizePn _ _ _)) rfl ?_
    have hend := pn_end (w := w) (W := wI) (P := P) (R := R) (l := putPl d x kk) (F := fun b => w3.heap.size ≤ b ∨ w3.heap.size ≤ b) HPN.out (by omega) (by omega) HBI.out HLT.out.1 (by omega) #[.int .i64 f, .int .u32 m, .slice AI NI cI]
    exact ⟨_, rfl, hend.1.mono fun b _ hb => by have := HB3.out.size; omega, hend.2⟩
  · rw [if_pos (by kernel_rfl)]
    go_simp
    go_at_call 24; refine (HCL.out _ hk0).mono ?_; rintro e wq ⟨vc, rfl, hps, hb⟩
    obtain ⟨Ac, dc, rfl⟩ := hps.form
    have hkA := hk0.trans (hb.mono hk0.size)
    have hsA := hk0.size
    refine hK.out _ _ ?_ (fun hHeld => ?_)
    · exact HX6.out _ hkA
    clear hK K
    (try simp only [Act.put, List.setIfInBounds_toArray, List.set_cons_zero, List.set_cons_succ])
    refine wpAnyH_ready (rs := [1, 5]) (by kernel_rfl) (by simp) ?_
    refine AllReadyH.cons (o := ⟨some 19, _, _, _, _, _⟩) rfl (fun K hK => ?_) (AllReadyH.cons (o := ⟨some 23, _, _, _, _, _⟩) rfl (fun K hK => ?_) AllReadyH.nil)
    · obtain ⟨p0, p1, p2⟩ := HP6.out _ hkA
      rw [if_pos (by kernel_rfl)]
      go_simp
      refine hK.out _ _ ?_ (fun hHeld => ?_)
      · exact HX6.out _ hkA
      clear hK K p0 p1 p2
      (try simp only [Act.put, List.setIfInBounds_toArray, List.set_cons_zero, List.set_cons_succ])
      refine wpAnyH_ready (rs := [5]) (by kernel_rfl) (by simp) ?_
      refine AllReadyH.cons (o := ⟨some 23, _, _, _, _, _⟩) rfl (fun K hK => ?_) AllReadyH.nil
      obtain ⟨wN, N, hwN, hN, hNl, hbN, hNb⟩ := box_any wq #[.int .i64 x.u, .int .i64 x.s, .int .i64 x.c, .slice Ac x.ps.length dc] 41
      have hkN := hkA.trans (hbN.mono hkA.size)
      rw [if_pos (by kernel_rfl)]
      go_simp
      refine hK.out _ _ ?_ (fun hHeld => ?_)
      · exact HX6.out _ hkN
      clear hK K
      (try simp only [Act.put, List.setIfInBounds_toArray, List.set_cons_zero, List.set_cons_succ])
      refine wpAnyH_ready (rs := [6]) (by kernel_rfl) (by simp) ?_
      refine AllReadyH.cons (o := ⟨some 24, _, _, _, _, _⟩) rfl (fun K hK => ?_) AllReadyH.nil
      have hrN := HROW.out.keep hkN
      have hoN := hrN.own
      have hne : (Value.slice A1 n c1).ownBlock ≠ some N := fun e => by have := own_lt (HROW.out.keep hkA).own e; omega
      have hpN : PcsIn (fun b => w3.heap.size ≤ b ∧ (Value.slice A1 n c1).ownBlock ≠ some b) wN (rpV ((Ac, dc), x)) x.ps := (hps.keep hbN).mono fun b _ hF => ⟨by have := HS5.out; have := HS4.out; omega, fun e => by have := own_lt HROW.out.own e; omega⟩
      have hIN := insert_any w3.heap.size (.slice A1 n c1) ls kk ((Ac, dc), x) N wN hoN HKN.out HLL.out (by have := hkN.size; have := HS5.out; have := HS4.out; omega) hNb hne
      unfold RetMp at hIN
      rw [if_pos (by kernel_rfl)]
      go_simp
      go_at_call 32; refine hIN.mono ?_; rintro e wI ⟨vI, rfl, hownI, hapI, hgrI⟩
      have hall := all_ins (k := kk) hrN.pcs hpN
      have hallI : AllPcs (fun b => w3.heap.size ≤ b ∧ (Value.slice A1 n c1).ownBlock ≠ some b) wI (ls.take kk ++ [((Ac, dc), x)] ++ ls.drop kk) := hall.keepF hapI.size fun b hb hF => hapI.block b hb hF.2
      have hold : ∀ b, b < w3.heap.size → wI.heap[b]? = w5.heap[b]? := fun b hb => (hapI.block b (by have := hkN.size; have := HS5.out; have := HS4.out; omega) (fun e => by have := own_base5 HROW.out.own b e; omega)).trans (hkN.block b (by have := HS5.out; have := HS4.out; omega))
      have HPI := Lib.hid ((hold P (by omega)).trans HP5.out)
      have HXI := Lib.hid ((hold X (by omega)).trans HX5.out)
      have HRI := Lib.hid ((hold R (by omega)).trans HR5.out)
      have HBI : Hid (Below w.heap.size w wI) := Lib.hid ((HB5.out.trans (hkN.mono HB5.out.size)).trans (hapI.below (by have := HB5.out.size; have := hkN.size; omega) fun b hb e => by have := own_base5 HROW.out.own b e; omega))
      obtain ⟨AI, cI, hvI⟩ := own_form hownI
      obtain ⟨NI, hNI⟩ : ∃ NI, (ls.take kk ++ [(((Ac, dc), x) : Rp)] ++ ls.drop kk).length = NI := ⟨_, rfl⟩
      rw [hNI] at hvI
      subst hvI
      have HPN := Lib.hid (pls_of_own hownI (hallI.mono (G := fun b => w3.heap.size ≤ b) fun b _ hF => hF.1))
      rw [ins_pls, HLS.out] at HPN
      refine hK.out _ _ ?_ (fun hHeld => ?_)
      · exact four_heads HXI.out
      clear hK K
      (try simp only [Act.put, List.setIfInBounds_toArray, List.set_cons_zero, List.set_cons_succ])
      clear hIN hoN hrN hpN hall hallI hapI hgrI hownI hold hNb hbN hwN
      refine wpAnyH_take (i := 7) (oi := ⟨some 25, _, _, _, _, _⟩) (v := ?_) rfl (by kernel_rfl) (by kernel_rfl) (by kernel_rfl) (fun _ _ _ h => h) (Or.inl ⟨by kernel_rfl, ?_⟩) (by assumption) ?_
      rotate_left
      · (intro w hSw; (try dsimp only at hSw); go_simp; try with_reducible rfl)
      (try simp only [Act.put, List.setIfInBounds_toArray, List.set_cons_zero, List.set_cons_succ])
      obtain ⟨p0, p1, p2⟩ := three_heads HPI.out
      obtain ⟨fr⟩ : wI.frozen? ⟨P, 2, none⟩ = false ∧ True := ⟨by have e := HPI.out; simp [World.frozen?, e], trivial⟩
      have HX9 : Hid ((wI.setCell ⟨P, 2, none⟩ (.slice AI NI cI)).heap[X]? = some (.cells #[.int .i64 x.u, .int .i64 x.s, .int .i64 x.c, .slice B x.ps.length dd] 41 (0, 0))) := (Below.heap_setCell _ _ _ _ (show X ≠ P by omega)).trans HXI.out
      have HP9 : Hid ((wI.setCell ⟨P, 2, none⟩ (.slice AI NI cI)).heap[P]? = some (.cells #[.int .i64 f, .int .u32 m, .slice AI NI cI] 28 (0, 0))) := heap_setCell_mem _ _ _ _ _ _ _ HPI.out
      have HR9 : Hid ((wI.setCell ⟨P, 2, none⟩ (.slice AI NI cI)).heap[R]? = some (.cells #[.int .i64 0, .int .u32 0, .slice none 0 0] 28 (0, 0))) := (Below.heap_setCell _ _ _ _ (show R ≠ P by omega)).trans HRI.out
      refine wpAnyH_ready (rs := [8]) (by kernel_rfl) (by simp) ?_
      refine AllReadyH.cons (o := ⟨none, _, _, _, _, _⟩) rfl (fun K hK => ?_) AllReadyH.nil
      rw [if_pos (by kernel_rfl)]
      go_simp
      refine hK.out _ _ ?_ (fun hHeld => ?_)
      · exact four_heads HX9.out
      clear hK K p0 p1 p2
      (try simp only [Act.put, List.setIfInBounds_toArray, List.set_cons_zero, List.set_cons_succ])
      refine wpAnyH_done (by kernel_rfl) ?_ _
      obtain ⟨g0, g1, g2⟩ := three_heads HP9.out
      go_wp2_with (refine wpList_store_row rfl _ _ _ rfl R #[.int .i64 f, .int .u32 m, .slice AI NI cI] rfl rfl 28 _ HR9.out (Try.sizePn _ _ _) rfl (one3 _ _ _ _ _) ?_)
      refine bodyPost_ret (v := planA f m (.slice AI NI cI)) (results_cell_row rfl _ _ R _ _ _ _ rfl (setRow_heap _ _ _ _ _ _ HR9.out) Try.underlying28 rfl (Try.sizePn _ _ _)) rfl ?_
      have hend := pn_end (w := w) (W := wI) (P := P) (R := R) (l := putPl d x kk) (F := fun b => w3.heap.size ≤ b ∨ w3.heap.size ≤ b) HPN.out (by omega) (by omega) HBI.out HLT.out.1 (by omega) #[.int .i64 f, .int .u32 m, .slice AI NI cI]
      exact ⟨_, rfl, hend.1.mono fun b _ hb => by have := HB3.out.size; omega, hend.2⟩
    · obtain ⟨wN, N, hwN, hN, hNl, hbN, hNb⟩ := box_any wq #[.int .i64 x.u, .int .i64 x.s, .int .i64 x.c, .slice Ac x.ps.length dc] 41
      have hkN := hkA.trans (hbN.mono hkA.size)
      rw [if_pos (by kernel_rfl)]
      go_simp
      refine hK.out _ _ ?_ (fun hHeld => ?_)
      · exact HX6.out _ hkN
      clear hK K
      (try simp only [Act.put, List.setIfInBounds_toArray, List.set_cons_zero, List.set_cons_succ])
      refine wpAnyH_ready (rs := [1]) (by kernel_rfl) (by simp) ?_
      refine AllReadyH.cons (o := ⟨some 19, _, _, _, _, _⟩) rfl (fun K hK => ?_) AllReadyH.nil
      obtain ⟨p0, p1, p2⟩ := HP6.out _ hkN
      rw [if_pos (by kernel_rfl)]
      go_simp
      refine hK.out _ _ ?_ (fun hHeld => ?_)
      · exact HX6.out _ hkN
      clear hK K p0 p1 p2
      (try simp only [Act.put, List.setIfInBounds_toArray, List.set_cons_zero, List.set_cons_succ])
      refine wpAnyH_ready (rs := [6]) (by kernel_rfl) (by simp) ?_
      refine AllReadyH.cons (o := ⟨some 24, _, _, _, _, _⟩) rfl (fun K hK => ?_) AllReadyH.nil
      have hrN := HROW.out.keep hkN
      have hoN := hrN.own
      have hne : (Value.slice A1 n c1).ownBlock ≠ some N := fun e => by have := own_lt (HROW.out.keep hkA).own e; omega
      have hpN : PcsIn (fun b => w3.heap.size ≤ b ∧ (Value.slice A1 n c1).ownBlock ≠ some b) wN (rpV ((Ac, dc), x)) x.ps := (hps.keep hbN).mono fun b _ hF => ⟨by have := HS5.out; have := HS4.out; omega, fun e => by have := own_lt HROW.out.own e; omega⟩
      have hIN := insert_any w3.heap.size (.slice A1 n c1) ls kk ((Ac, dc), x) N wN hoN HKN.out HLL.out (by have := hkN.size; have := HS5.out; have := HS4.out; omega) hNb hne
      unfold RetMp at hIN
      rw [if_pos (by kernel_rfl)]
      go_simp
      go_at_call 32; refine hIN.mono ?_; rintro e wI ⟨vI, rfl, hownI, hapI, hgrI⟩
      have hall := all_ins (k := kk) hrN.pcs hpN
      have hallI : AllPcs (fun b => w3.heap.size ≤ b ∧ (Value.slice A1 n c1).ownBlock ≠ some b) wI (ls.take kk ++ [((Ac, dc), x)] ++ ls.drop kk) := hall.keepF hapI.size fun b hb hF => hapI.block b hb hF.2
      have hold : ∀ b, b < w3.heap.size → wI.heap[b]? = w5.heap[b]? := fun b hb => (hapI.block b (by have := hkN.size; have := HS5.out; have := HS4.out; omega) (fun e => by have := own_base5 HROW.out.own b e; omega)).trans (hkN.block b (by have := HS5.out; have := HS4.out; omega))
      have HPI := Lib.hid ((hold P (by omega)).trans HP5.out)
      have HXI := Lib.hid ((hold X (by omega)).trans HX5.out)
      have HRI := Lib.hid ((hold R (by omega)).trans HR5.out)
      have HBI : Hid (Below w.heap.size w wI) := Lib.hid ((HB5.out.trans (hkN.mono HB5.out.size)).trans (hapI.below (by have := HB5.out.size; have := hkN.size; omega) fun b hb e => by have := own_base5 HROW.out.own b e; omega))
      obtain ⟨AI, cI, hvI⟩ := own_form hownI
      obtain ⟨NI, hNI⟩ : ∃ NI, (ls.take kk ++ [(((Ac, dc), x) : Rp)] ++ ls.drop kk).length = NI := ⟨_, rfl⟩
      rw [hNI] at hvI
      subst hvI
      have HPN := Lib.hid (pls_of_own hownI (hallI.mono (G := fun b => w3.heap.size ≤ b) fun b _ hF => hF.1))
      rw [ins_pls, HLS.out] at HPN
      refine hK.out _ _ ?_ (fun hHeld => ?_)
      · exact four_heads HXI.out
      clear hK K
      (try simp only [Act.put, List.setIfInBounds_toArray, List.set_cons_zero, List.set_cons_succ])
      clear hIN hoN hrN hpN hall hallI hapI hgrI hownI hold hNb hbN hwN
      refine wpAnyH_take (i := 7) (oi := ⟨some 25, _, _, _, _, _⟩) (v := ?_) rfl (by kernel_rfl) (by kernel_rfl) (by kernel_rfl) (fun _ _ _ h => h) (Or.inl ⟨by kernel_rfl, ?_⟩) (by assumption) ?_
      rotate_left
      · (intro w hSw; (try dsimp only at hSw); go_simp; try with_reducible rfl)
      (try simp only [Act.put, List.setIfInBounds_toArray, List.set_cons_zero, List.set_cons_succ])
      obtain ⟨p0, p1, p2⟩ := three_heads HPI.out
      obtain ⟨fr⟩ : wI.frozen? ⟨P, 2, none⟩ = false ∧ True := ⟨by have e := HPI.out; simp [World.frozen?, e], trivial⟩
      have HX9 : Hid ((wI.setCell ⟨P, 2, none⟩ (.slice AI NI cI)).heap[X]? = some (.cells #[.int .i64 x.u, .int .i64 x.s, .int .i64 x.c, .slice B x.ps.length dd] 41 (0, 0))) := (Below.heap_setCell _ _ _ _ (show X ≠ P by omega)).trans HXI.out
      have HP9 : Hid ((wI.setCell ⟨P, 2, none⟩ (.slice AI NI cI)).heap[P]? = some (.cells #[.int .i64 f, .int .u32 m, .slice AI NI cI] 28 (0, 0))) := heap_setCell_mem _ _ _ _ _ _ _ HPI.out
      have HR9 : Hid ((wI.setCell ⟨P, 2, none⟩ (.slice AI NI cI)).heap[R]? = some (.cells #[.int .i64 0, .int .u32 0, .slice none 0 0] 28 (0, 0))) := (Below.heap_setCell _ _ _ _ (show R ≠ P by omega)).trans HRI.out
      refine wpAnyH_ready (rs := [8]) (by kernel_rfl) (by simp) ?_
      refine AllReadyH.cons (o := ⟨none, _, _, _, _, _⟩) rfl (fun K hK => ?_) AllReadyH.nil
      rw [if_pos (by kernel_rfl)]
      go_simp
      refine hK.out _ _ ?_ (fun hHeld => ?_)
      · exact four_heads HX9.out
      clear hK K p0 p1 p2
      (try simp only [Act.put, List.setIfInBounds_toArray, List.set_cons_zero, List.set_cons_succ])
      refine wpAnyH_done (by kernel_rfl) ?_ _
      obtain ⟨g0, g1, g2⟩ := three_heads HP9.out
      go_wp2_with (refine wpList_store_row rfl _ _ _ rfl R #[.int .i64 f, .int .u32 m, .slice AI NI cI] rfl rfl 28 _ HR9.out (Try.sizePn _ _ _) rfl (one3 _ _ _ _ _) ?_)
      refine bodyPost_ret (v := planA f m (.slice AI NI cI)) (results_cell_row rfl _ _ R _ _ _ _ rfl (setRow_heap _ _ _ _ _ _ HR9.out) Try.underlying28 rfl (Try.sizePn _ _ _)) rfl ?_
      have hend := pn_end (w := w) (W := wI) (P := P) (R := R) (l := putPl d x kk) (F := fun b => w3.heap.size ≤ b ∨ w3.heap.size ≤ b) HPN.out (by omega) (by omega) HBI.out HLT.out.1 (by omega) #[.int .i64 f, .int .u32 m, .slice AI NI cI]
      exact ⟨_, rfl, hend.1.mono fun b _ hb => by have := HB3.out.size; omega, hend.2⟩
end Go.Proofs.Ytpfpojehcjmfnaa

/-
  slices.Clone, slices.DeleteFunc with whatever predicate.
  Conditions: the row is of the caller's own; the predicate, whatever the world, answers so, and leaves all that was.
-/
set_option linter.unusedVariables false
namespace Go.Proofs.Ytpfpojehcjmfnaa
open Go.RowKit

theorem setCells_block (b : Nat) : ∀ (us : List Value) (k : Nat) (W : World), (W.setCells b k us).heap.size = W.heap.size
  | [], _, _ => rfl
  | u :: r, k, W => by rw [World.setCells, setCells_block b r]; simp [World.setCell]
theorem below_setCells {B : Nat} {a : World} (b : Nat) (hb : B ≤ b) : ∀ (us : List Value) (k : Nat) (W : World), Below B a W → Below B a (W.setCells b k us)
  | [], _, _, h => h
  | u :: r, k, W, h => below_setCells b hb r (k + 1) _ (h.setCell (p := ⟨b, k, none⟩) hb u)
theorem own_short {W : World} {base e g n cap i : Nat} {xs : List Value} (h : W.ownsRow base e 2 (.slice (some ⟨g, 0, none⟩) n cap) n xs) (hi : i ≤ n) :
    W.ownsRow base e 2 (.slice (some ⟨g, 0, none⟩) i cap) i (xs.take (i * 2)) := by
  obtain ⟨h1, h2⟩ := h
  refine ⟨by rw [List.length_take]; omega, ?_⟩
  rcases h2 with ⟨h0, _⟩ | ⟨g', cap', cur, hv, hg, hh, hn, hc, hs, ht⟩
  · cases h0
  · injection hv with e1 e2 e3
    injection e1 with e1
    injection e1 with e1
    subst e1 e3
    exact .inr ⟨g, cap, cur, rfl, hg, hh, by omega, hc, hs, by rw [← ht, List.take_take, Nat.min_eq_left (by omega)]⟩
/-- The cells behind the first i spans are stored into; the slice is cut. -/
theorem own_cut {base e g n cap i : Nat} (hi : i ≤ n) : ∀ (us : List Value) (k : Nat) (W : World) (xs : List Value), i * 2 ≤ k → W.ownsRow base e 2 (.slice (some ⟨g, 0, none⟩) n cap) n xs →
    (W.setCells g k us).ownsRow base e 2 (.slice (some ⟨g, 0, none⟩) i cap) i (xs.take (i * 2))
  | [], k, W, xs, _, h => own_short h hi
  | u :: r, k, W, xs, hk, h => by
    have := own_cut hi r (k + 1) _ _ (by omega) (own_set (k := k) h u)
    rw [World.setCells]
    rwa [List.take_set_of_le hk] at this

/-- clear of a slice of spans. -/
theorem run_clear_spans {P : Program} (w : World) (t e : TypeId) (ht : P.underlying t = some (.slice e)) (hv : ∀ w, (zeroValue e).run P w = .ok (.agg #[.int .i64 0, .int .i64 0]) w) (b o n c : Nat) (hn : 0 < n)
    (hc : ∀ j, j < n * 2 → (w.cell? ⟨b, o + j, none⟩).isSome = true) (hf : ∀ j, j < n * 2 → w.frozen? ⟨b, o + j, none⟩ = false) :
    ∃ us, ∀ ty, (Builtin.clear_ #[t] ty #[.slice (some ⟨b, o, none⟩) n c]).run P w = .ok (.tuple #[]) (w.setCells b o us) := by
  have hcell : (Value.agg #[.int .i64 0, .int .i64 0]).cells = #[.int .i64 0, .int .i64 0] := rfl
  refine ⟨(Builtin.zeroCells #[.int .i64 0, .int .i64 0] n).toList, fun ty => ?_⟩
  have hlen : (Builtin.zeroCells #[.int .i64 0, .int .i64 0] n).toList.length = n * 2 := by simp [Builtin.zeroCells]
  have hst := run_storeCells_cells (P := P) b o (Builtin.zeroCells #[.int .i64 0, .int .i64 0] n).toList 0 w (by rw [hlen]; simpa using hc) (by rw [hlen]; simpa using hf) (by
    intro v hv'
    simp only [Builtin.zeroCells, Array.toList_map, List.mem_map] at hv'
    obtain ⟨i, _, rfl⟩ := hv'
    rcases Nat.mod_two_eq_zero_or_one i with h | h <;> (simp [h]; rfl))
  simp only [Nat.add_zero] at hst
  obtain ⟨m, rfl⟩ : ∃ m, n = m + 1 := ⟨n - 1, by omega⟩
  simp [Builtin.clear_, run_underlying ht, hv, hcell, hst]

/-- DeleteFunc under way: the first i spans are those that stay of the first j; from j on the row is as it was. -/
def KeptS (q : Sp → Bool) (ps dk : List Sp) (i j : Nat) : Prop :=
  i < j ∧ j ≤ ps.length ∧ dk.length = ps.length ∧ dk.take i = (ps.take j).filter q ∧ ∀ t, j ≤ t → dk[t]? = ps[t]?
theorem take_succ_of {α : Type} {l : List α} {j : Nat} {x : α} (h : l[j]? = some x) : l.take (j + 1) = l.take j ++ [x] := by
  rw [List.take_add_one, h]; rfl
theorem KeptS.start {q : Sp → Bool} {ps : List Sp} {k : Nat} {s : Sp} (hk : ps[k]? = some s) (hs : q s = false) (hall : ∀ (j : Nat) (t : Sp), j < k → ps[j]? = some t → q t = true) : KeptS q ps ps k (k + 1) := by
  have hlt : k < ps.length := (List.getElem?_eq_some_iff.1 hk).1
  refine ⟨by omega, by omega, rfl, ?_, fun t _ => rfl⟩
  rw [take_succ_of hk, List.filter_append, List.filter_eq_self.2 ?_]
  · simp [hs]
  · intro t ht
    obtain ⟨j, hj, e⟩ := List.getElem_of_mem ht
    rw [List.length_take] at hj
    refine hall j t (by omega) ?_
    rw [List.getElem_take] at e
    rw [List.getElem?_eq_getElem (by omega), e]
theorem KeptS.skip {q : Sp → Bool} {ps dk : List Sp} {i j : Nat} {s : Sp} (h : KeptS q ps dk i j) (hk : ps[j]? = some s) (hs : q s = false) : KeptS q ps dk i (j + 1) := by
  obtain ⟨h1, h2, h3, h4, h5⟩ := h
  have hlt : j < ps.length := (List.getElem?_eq_some_iff.1 hk).1
  refine ⟨by omega, by omega, h3, ?_, fun t ht => h5 t (by omega)⟩
  rw [take_succ_of hk, List.filter_append, h4]
  simp [hs]
theorem KeptS.take {q : Sp → Bool} {ps dk : List Sp} {i j : Nat} {s : Sp} (h : KeptS q ps dk i j) (hk : ps[j]? = some s) (hs : q s = true) : KeptS q ps (dk.set i s) (i + 1) (j + 1) := by
  obtain ⟨h1, h2, h3, h4, h5⟩ := h
  have hlt : j < ps.length := (List.getElem?_eq_some_iff.1 hk).1
  refine ⟨by omega, by omega, by rw [List.length_set]; exact h3, ?_, fun t ht => ?_⟩
  · rw [take_succ_of hk, List.filter_append, ← h4, take_succ_of (x := s) (by rw [List.getElem?_set]; simp; omega), List.take_set_of_le (Nat.le_refl _)]
    simp [hs]
  · rw [List.getElem?_set, if_neg (by omega)]
    exact h5 t (by omega)
theorem KeptS.at_ {q : Sp → Bool} {ps dk : List Sp} {i j : Nat} (h : KeptS q ps dk i j) : dk[j]? = ps[j]? := h.2.2.2.2 j (Nat.le_refl _)
theorem KeptS.done {q : Sp → Bool} {ps dk : List Sp} {i : Nat} (h : KeptS q ps dk i ps.length) : dk.take i = ps.filter q := by
  have := h.2.2.2.1
  rwa [List.take_length] at this
theorem spansCells_take : ∀ (ps : List Sp) (i : Nat), (spansCells ps).take (i * 2) = spansCells (ps.take i)
  | [], i => by simp [spansCells]
  | p :: ps, 0 => by simp [spansCells]
  | p :: ps, i + 1 => by
    rw [spansCells_cons, show (i + 1) * 2 = i * 2 + 1 + 1 by omega, List.take_succ_cons, List.take_succ_cons, spansCells_take ps i, List.take_succ_cons, spansCells_cons]

/-- slices.Clone. -/
theorem clone_any (v : Value) (ps : List Sp) (w : World) (h : SpansAt w v ps) :
    Calls Try.prog 25 #[v] w (RetO w.heap.size 25 ps w) := by
  obtain ⟨i0, hi, hz0, hz1, hz2⟩ := info_parts Try.infoSpan
  have hsp := h
  obtain ⟨A, c, rfl, hc1, hlen, hc2, hat⟩ := h
  have u24 := Try.underlying23
  cases A with
  | none =>
    have h0 : ps = [] := by
      rcases Nat.eq_zero_or_pos ps.length with h | h
      · exact List.eq_nil_of_length_eq_zero h
      · obtain ⟨b, off, e, _⟩ := hat h; cases e
    subst h0
    clear hat hsp
    have q22 : ∀ (w : World) (n c n' c' : Nat), (binOp .eql 23 (.slice none n c) (.slice none n' c')).run Try.prog w = .ok (.bool true) w := fun w n c n' c' => Lib.run_eql_slice_nil w _ _ none n c n' c' u24
    go_enter Try.func25, Try.ntmps25
    go_wp2
    go_ret
    exact ⟨_, rfl, World.ownsRow_nil _ _ _ _, Below.refl _ _⟩
  | some a =>
    have HAT := Lib.hid hat
    have HLEN := Lib.hid (spansCells_length ps)
    have hnews : Hid (∀ j u, (spansCells ps)[j]? = some u → w.cell? (a.add j) = some u) := by
      intro j u hj
      have hp : 0 < ps.length := by
        have := (List.getElem?_eq_some_iff.1 hj).1
        rw [spansCells_length] at this; omega
      obtain ⟨b, off, e, hbl, hcell⟩ := hat hp
      cases e
      have := spansCells_of hcell j u hj
      rw [Addr.add_lit]
      exact this
    have HONE := Lib.hid (spansCells_one ps)
    generalize hn : ps.length = n at *
    generalize hcs : spansCells ps = cs at *
    have q22 : ∀ (w : World) (n c n' c' : Nat), (binOp .eql 23 (.slice (some a) n c) (.slice none n' c')).run Try.prog w = .ok (.bool false) w := fun w n c n' c' => Lib.run_eql_slice_nil w _ _ (some a) n c n' c' u24
    have HO0 : Hid ((w.alloc (Obj.cells #[] 25)).ownsRow w.heap.size 25 2 (.slice (some ⟨w.heap.size, 0, none⟩) 0 0) 0 []) :=
      ⟨rfl, .inr ⟨w.heap.size, 0, #[], rfl, Nat.le_refl _, heap_alloc_new w _, Nat.le_refl _, Nat.zero_le _, rfl, rfl⟩⟩
    have HN := Lib.hid hn
    have HCS := Lib.hid hcs
    clear hat hsp hn hcs
    go_enter Try.func25, Try.ntmps25
    go_wp2_with (at_builtin; refine wpList_append_own _ rfl _ _ 23 rfl w.heap.size 25 i0 (.agg #[.int .i64 0, .int .i64 0]) 2 16 Try.underlying23 hi hz0 hz1 hz2 rfl (by decide) _ _ _ rfl HO0.out a n c cs rfl ?c0 ?c1 ?c2 ?c3 ?c4 ?c5 ?_)
    case c0 => exact HLEN.out
    case c1 =>
      intro j u hj
      have := hnews.out j u hj
      rw [Lib.cell?_alloc_some _ this]
    case c2 => exact HONE.out
    case c3 => unfold maxLen; omega
    case c4 => omega
    case c5 => simp
    intro v2 w2 hown2 hgrow _
    have HB2 := Lib.hid (((Below.refl _ w).alloc (Nat.le_refl _) (Obj.cells #[] 25)).trans (below_grown5 hgrow (by simp) (own_base5 HO0.out)))
    have HO2 := Lib.hid hown2
    clear hown2 hgrow
    go_wp2
    go_ret
    refine ⟨_, rfl, ?_, HB2.out⟩
    rw [HN.out, HCS.out]
    exact HO2.out
end Go.Proofs.Ytpfpojehcjmfnaa
