/-
  The law of changes made there and back: DiffBack.
  Conditions: the slices read as places; the numbers are of their kinds.
-/
import Derived.Test.YtincbilobmhgeaaM16
import Derived.Test.YtincbilobmhgeaaM17
import Derived.Test.YtincbilobmhgeaaM22
import Derived.Test.YtincbilobmhgeaaM19

/-
  The law of changes made there and back: DiffBack.
  Conditions: the slices read as places; the numbers are of their kinds.
-/
set_option linter.unusedVariables false
set_option linter.unusedSimpArgs false
namespace Go.Proofs.Ytincbilobmhgeaa
open Go.RowKit

theorem sameB_self (f : Int) (m : Nat) (l : List Pl) : sameB f m l f m l = true := decide_eq_true ⟨rfl, rfl, rfl⟩
theorem setCell_any (w : World) (R o k : Nat) {x : Value} (h : k ≠ R) : (w.setCell ⟨R, o, none⟩ x).heap[k]? = w.heap[k]? := Below.heap_setCell w ⟨R, o, none⟩ x k h
theorem plsX_setCell {W : World} {v x : Value} {l : List Pl} {R o : Nat} {f : Int} {M : Nat} {u : Value} {T : TypeId} (h : PlsAt W v l) (hR : W.heap[R]? = some (.cells #[.int .i64 f, .int .u32 (M : Int), u] T (0, 0))) : PlsAt (W.setCell ⟨R, o, none⟩ x) v l :=
  ((pls_not hR h).keepF (by simp [World.setCell]) fun b _ hb => setCell_any W R o b hb.2).any

set_option maxRecDepth 100000 in
set_option maxHeartbeats 8000000 in
theorem back_law (f1 f2 : Int) (m1 m2 : Nat) (v1 v2 : Value) (la lb : List Pl) (w : World) (h1 : PlsAt w v1 la) (h2 : PlsAt w v2 lb) (ho1 : ∀ x ∈ la, PlOk x) (ho2 : ∀ x ∈ lb, PlOk x) (hm1 : m1 < 4294967296) (hm2 : m2 < 4294967296) :
    Calls Try.prog 5 #[planA f1 m1 v1, planA f2 m2 v2] w (RetB (.bool true) w) := by
  have mixed : Try.prog.follows .mixedOrders = true := by kernel_rfl
  have HAW := Lib.hid (fun W => awake22_any W)
  obtain ⟨w1, P, hw1, hP, hPl, hb1, hpb⟩ := box_any w #[.int .i64 f1, .int .u32 m1, v1] 25
  obtain ⟨w2, Q, hw2, hQ, hQl, hb2, hqb⟩ := box_any w1 #[.int .i64 f2, .int .u32 m2, v2] 25
  have HB2 := Lib.hid (hb1.trans (hb2.mono hb1.size))
  have HPB := Lib.hid (keep_block hpb hb2)
  have HQB := Lib.hid hqb
  have HSA : Hid (∀ W, Below w2.heap.size w2 W → W.cell? ⟨P, 0, none⟩ = some (.int .i64 f1) ∧ W.cell? ⟨P, 1, none⟩ = some (.int .u32 m1) ∧ W.cell? ⟨P, 2, none⟩ = some v1 ∧ W.cell? ⟨Q, 0, none⟩ = some (.int .i64 f2) ∧ W.cell? ⟨Q, 1, none⟩ = some (.int .u32 m2) ∧ W.cell? ⟨Q, 2, none⟩ = some v2) := Lib.hid (fun W hk => by
    obtain ⟨a, b, c⟩ := three_heads (keep_block HPB.out hk)
    obtain ⟨d, e, f⟩ := three_heads (keep_block HQB.out hk)
    exact ⟨a, b, c, d, e, f⟩)
  have HP1 : Hid (∀ W, Below w2.heap.size w2 W → PlsAt W v1 la) := Lib.hid (fun W hk => h1.keep (HB2.out.trans (hk.mono HB2.out.size)))
  have HP2 : Hid (∀ W, Below w2.heap.size w2 W → PlsAt W v2 lb) := Lib.hid (fun W hk => h2.keep (HB2.out.trans (hk.mono HB2.out.size)))
  have HRI := Lib.hid (fun W hk => calls_iff (right2_any f1 f2 m1 m2 v1 v2 la lb W (HP1.out W hk) (HP2.out W hk) ho1 ho2 hm1 hm2))
  have HK0 := Lib.hid (Below.refl w2.heap.size w2)
  obtain ⟨p0, p1, p2, q0, q1, q2⟩ := HSA.out _ HK0.out
  unfold planA at HRI ⊢
  clear h1 h2 hb1 hb2 hpb hqb
  by_cases hgood : (Lit la ∧ Lit lb) ∧ Right f1 m1 la ∧ Right f2 m2 lb
  · have HRY := Lib.hid (fun W hk => (HRI.out W hk).1 hgood)
    have HL1 := Lib.hid (hgood.1.1.light ho1)
    have HL2 := Lib.hid (hgood.1.2.light ho2)
    have HR1 := Lib.hid hgood.2.1
    have HR2 := Lib.hid hgood.2.2
    have hv1 : ∃ A c, v1 = .slice A la.length c := by obtain ⟨A, c, e, _⟩ := (HP1.out _ HK0.out).form; exact ⟨A, c, e⟩
    have hv2 : ∃ A c, v2 = .slice A lb.length c := by obtain ⟨A, c, e, _⟩ := (HP2.out _ HK0.out).form; exact ⟨A, c, e⟩
    have HCX := Lib.hid (fun W hk => diffChangesG_any f1 f2 f1 f2 m1 m2 m1 m2 v1 v2 la lb W (HP1.out W hk) (HP2.out W hk) HL1.out HL2.out HR1.out HR2.out)
    have HAX := Lib.hid (fun vl W hk hc => diffApplyC_any f1 f1 f2 m1 m1 m2 v1 vl la lb W (HP1.out W hk) hc HL1.out HL2.out HR1.out HR2.out)
    have HCY0 := Lib.hid (fun v W (hp : PlsAt W v lb) hk => diffChangesG_any f1 f1 f2 f1 m1 m1 m2 m1 v v1 lb la W hp (HP1.out W hk) HL2.out HL1.out HR2.out HR1.out)
    have HAY0 := Lib.hid (fun v vl W (hp : PlsAt W v lb) hc => diffApplyC_any f1 f2 f1 m1 m2 m1 v vl lb la W hp hc HL2.out HL1.out HR2.out HR1.out)
    have HSM1 := Lib.hid (fun u v W (a : PlsAt W u lb) (b : PlsAt W v lb) => refSame_any f2 m2 u lb f2 m2 v lb W a b)
    have HSM2 := Lib.hid (fun u v W (a : PlsAt W u la) (b : PlsAt W v la) => refSame_any f1 m1 u la f1 m1 v la W a b)
    rw [sameB_self] at HSM1 HSM2
    unfold RetCh at HCX HCY0
    unfold RetPlb at HAX HAY0
    obtain ⟨na, hna⟩ : ∃ n, la.length = n := ⟨_, rfl⟩
    obtain ⟨nb, hnb⟩ : ∃ n, lb.length = n := ⟨_, rfl⟩
    obtain ⟨T1, hT1⟩ : ∃ T, chgL la lb = T := ⟨_, rfl⟩
    obtain ⟨T2, hT2⟩ : ∃ T, chgL lb la = T := ⟨_, rfl⟩
    rw [hT1] at HCX HAX
    rw [hT2] at HCY0 HAY0
    obtain ⟨n1, hn1⟩ : ∃ n, T1.length = n := ⟨_, rfl⟩
    obtain ⟨n2, hn2⟩ : ∃ n, T2.length = n := ⟨_, rfl⟩
    rw [hn1] at HCX
    rw [hn2] at HCY0
    rw [hnb] at HAX
    rw [hna] at HAY0
    clear hna hnb hT1 hT2 hn1 hn2
    unfold planA at HCX HAX HCY0 HAY0 HSM1 HSM2
    clear HRI hgood ho1 ho2 hm1 hm2
    go_enter Try.func5, Try.ntmps5
    go_wp2_with fail
    clear hw1 hw2 hP hQ
    refine (HRY.out _ HK0.out).mono ?_
    rintro e w3 ⟨rfl, hb⟩
    have HK1 := Lib.hid (HK0.out.trans (hb.mono HK0.out.size))
    clear hb p0 p1 p2 q0 q1 q2
    obtain ⟨p0, p1, p2, q0, q1, q2⟩ := HSA.out _ HK1.out
    have HSX : Hid (∀ W, Below w3.heap.size w3 W → W.cell? ⟨P, 0, none⟩ = some (.int .i64 f1) ∧ W.cell? ⟨P, 1, none⟩ = some (.int .u32 m1) ∧ W.cell? ⟨P, 2, none⟩ = some v1 ∧ W.cell? ⟨Q, 0, none⟩ = some (.int .i64 f2) ∧ W.cell? ⟨Q, 1, none⟩ = some (.int .u32 m2) ∧ W.cell? ⟨Q, 2, none⟩ = some v2) := Lib.hid (fun W hk => HSA.out W (HK1.out.trans (hk.mono HK1.out.size)))
    have HCX := Lib.hid (fun W (hk : Below w3.heap.size w3 W) => HCX.out W (HK1.out.trans (hk.mono HK1.out.size)))
    have HAX := Lib.hid (fun vl W (hk : Below w3.heap.size w3 W) => HAX.out vl W (HK1.out.trans (hk.mono HK1.out.size)))
    go_upto_region 3 with fail
    go_cut [5] from 12 to 17 (fun s5 wx => ∃ (C : Nat) (Ax : Option Addr) (cx : Nat), s5 = .pointer (some ⟨C, 0, none⟩) ∧ w3.heap.size ≤ C ∧ Below w3.heap.size w3 wx ∧ wx.heap[C]? = some (.cells #[.int .i64 f1, .int .u32 m1, .slice Ax nb cx] 25 (0, 0)) ∧ PlsAt wx (.slice Ax nb cx) lb)
    case first =>
      have hkx : Below w3.heap.size w3 w3.drew := (Below.refl _ _).drew
      refine wp_region_held_drew (S := fun w' => w'.cell? ⟨P, 0, none⟩ = some (.int .i64 f1) ∧ w'.cell? ⟨P, 1, none⟩ = some (.int .u32 m1) ∧ w'.cell? ⟨P, 2, none⟩ = some (v1) ∧ w'.cell? ⟨Q, 0, none⟩ = some (.int .i64 f2) ∧ w'.cell? ⟨Q, 1, none⟩ = some (.int .u32 m2) ∧ w'.cell? ⟨Q, 2, none⟩ = some (v2)) (by kernel_rfl) ?_ (fun hHeld => ?_)
      · exact HSX.out _ hkx
      refine wpAnyH_take (i := 0) (oi := ⟨some 12, _, _, _, _, _⟩) (v := ?_) rfl (by kernel_rfl) (by kernel_rfl) (by kernel_rfl) (fun _ _ _ h => h) (Or.inl ⟨by kernel_rfl, ?_⟩) (by assumption) ?_
      rotate_left
      · (intro w hSw; (try dsimp only at hSw); go_simp; try with_reducible rfl)
      (try simp only [Act.put, List.setIfInBounds_toArray, List.set_cons_zero, List.set_cons_succ])
      refine wpAnyH_take (i := 1) (oi := ⟨some 13, _, _, _, _, _⟩) (v := ?_) rfl (by kernel_rfl) (by kernel_rfl) (by kernel_rfl) (fun _ _ _ h => h) (Or.inl ⟨by kernel_rfl, ?_⟩) (by assumption) ?_
      rotate_left
      · (intro w hSw; (try dsimp only at hSw); go_simp; try with_reducible rfl)
      (try simp only [Act.put, List.setIfInBounds_toArray, List.set_cons_zero, List.set_cons_succ])
      refine wpAnyH_take (i := 2) (oi := ⟨some 14, _, _, _, _, _⟩) (v := ?_) rfl (by kernel_rfl) (by kernel_rfl) (by kernel_rfl) (fun _ _ _ h => h) (Or.inl ⟨by kernel_rfl, ?_⟩) (by assumption) ?_
      rotate_left
      · (intro w hSw; (try dsimp only at hSw); go_simp; try with_reducible rfl)
      (try simp only [Act.put, List.setIfInBounds_toArray, List.set_cons_zero, List.set_cons_succ])
      refine wpAnyH_ready (rs := [3, 5]) (by kernel_rfl) (by simp) ?_
      refine AllReadyH.cons (o := ⟨some 15, _, _, _, _, _⟩) rfl (fun K hK => ?_) (AllReadyH.cons (o := ⟨some 5, _, _, _, _, _⟩) rfl (fun K hK => ?_) AllReadyH.nil)
      · rw [if_pos (by kernel_rfl)]
        go_simp
        go_at_call 15; refine (HCX.out _ hkx).mono ?_; rintro e w11x ⟨Aqx, cqx, rfl, hchx, hb11⟩
        have hk11x := hkx.trans (hb11.mono hkx.size)
        refine hK.out _ _ ?_ (fun hHeld => ?_)
        · exact HSX.out _ hk11x
        clear hK K
        (try simp only [Act.put, List.setIfInBounds_toArray, List.set_cons_zero, List.set_cons_succ])
        refine wpAnyH_ready (rs := [4, 5]) (by kernel_rfl) (by simp) ?_
        refine AllReadyH.cons (o := ⟨some 16, _, _, _, _, _⟩) rfl (fun K hK => ?_) (AllReadyH.cons (o := ⟨some 5, _, _, _, _, _⟩) rfl (fun K hK => ?_) AllReadyH.nil)
        · rw [if_pos (by kernel_rfl)]
          go_simp
          go_at_call 20; refine (HAX.out _ _ hk11x hchx).mono ?_; rintro e w12x ⟨Ax, cx, rfl, hplx, hb12⟩
          have hk12x := hk11x.trans (hb12.mono hk11x.size)
          have hchx := hchx.keep hb12
          refine hK.out _ _ ?_ (fun hHeld => ?_)
          · exact HSX.out _ hk12x
          clear hK K
          (try simp only [Act.put, List.setIfInBounds_toArray, List.set_cons_zero, List.set_cons_succ])
          refine wpAnyH_ready (rs := [5]) (by kernel_rfl) (by simp) ?_
          refine AllReadyH.cons (o := ⟨some 5, _, _, _, _, _⟩) rfl (fun K hK => ?_) AllReadyH.nil
          obtain ⟨w13x, C, hw13, hB13, hl13, hb13, hbxx⟩ := box_any w12x #[.int .i64 0, .int .u32 0, .slice none 0 0] 25
          have hk13x := hk12x.trans (hb13.mono hk12x.size)
          have hlox : w3.heap.size ≤ C := by have := hk12x.size; omega
          have hchx := hchx.keep hb13
          have hplx := hplx.keep hb13
          rw [if_pos (by kernel_rfl)]
          go_simp
          refine hK.out _ _ ?_ (fun hHeld => ?_)
          · exact HSX.out _ hk13x
          clear hK K
          (try simp only [Act.put, List.setIfInBounds_toArray, List.set_cons_zero, List.set_cons_succ])
          refine wpAnyH_ready (rs := [6]) (by kernel_rfl) (by simp) ?_
          refine AllReadyH.cons (o := ⟨none, _, _, _, _, _⟩) rfl (fun K hK => ?_) AllReadyH.nil
          have hpn := pls_not (M := 0) hbxx hplx
          rw [if_pos (by kernel_rfl)]
          refine wp_store_row _ _ _ rfl C #[.int .i64 f1, .int .u32 m1, .slice Ax nb cx] rfl rfl 25 #[.int .i64 0, .int .u32 0, .slice none 0 0] hbxx (Try.sizePn _ _ _) rfl (one3 _ _ _ _ _) ?_
          have hkf := below_row16 hk13x hlox #[.int .i64 f1, .int .u32 m1, .slice Ax nb cx]
          refine hK.out _ _ ?_ (fun hHeld => ?_)
          · exact HSX.out _ hkf
          clear hK K
          (try simp only [Act.put, List.setIfInBounds_toArray, List.set_cons_zero, List.set_cons_succ])
          refine wpAnyH_done (by kernel_rfl) ?_ _
          go_wp2_with fail
          go_meet
          exact ⟨C, Ax, cx, rfl, hlox, hkf, setRow_heap _ _ _ _ _ _ hbxx, (PlsIn.setRow hpn (.inl fun h => h.2 rfl)).any⟩
        · obtain ⟨w15x, C, hw15, hB15, hl15, hb15, hbxx⟩ := box_any w11x #[.int .i64 0, .int .u32 0, .slice none 0 0] 25
          have hk15x := hk11x.trans (hb15.mono hk11x.size)
          have hlox : w3.heap.size ≤ C := by have := hk11x.size; omega
          have hchx := hchx.keep hb15
          rw [if_pos (by kernel_rfl)]
          go_simp
          refine hK.out _ _ ?_ (fun hHeld => ?_)
          · exact HSX.out _ hk15x
          clear hK K
          (try simp only [Act.put, List.setIfInBounds_toArray, List.set_cons_zero, List.set_cons_succ])
          refine wpAnyH_ready (rs := [4]) (by kernel_rfl) (by simp) ?_
          refine AllReadyH.cons (o := ⟨some 16, _, _, _, _, _⟩) rfl (fun K hK => ?_) AllReadyH.nil
          rw [if_pos (by kernel_rfl)]
          go_simp
          go_at_call 20; refine (HAX.out _ _ hk15x hchx).mono ?_; rintro e w16x ⟨Ax, cx, rfl, hplx, hb16⟩
          have hk16x := hk15x.trans (hb16.mono hk15x.size)
          have hchx := hchx.keep hb16
          have hbxx := keep_block hbxx hb16
          refine hK.out _ _ ?_ (fun hHeld => ?_)
          · exact HSX.out _ hk16x
          clear hK K
          (try simp only [Act.put, List.setIfInBounds_toArray, List.set_cons_zero, List.set_cons_succ])
          refine wpAnyH_ready (rs := [6]) (by kernel_rfl) (by simp) ?_
          refine AllReadyH.cons (o := ⟨none, _, _, _, _, _⟩) rfl (fun K hK => ?_) AllReadyH.nil
          have hpn := pls_not (M := 0) hbxx hplx
          rw [if_pos (by kernel_rfl)]
          refine wp_store_row _ _ _ rfl C #[.int .i64 f1, .int .u32 m1, .slice Ax nb cx] rfl rfl 25 #[.int .i64 0, .int .u32 0, .slice none 0 0] hbxx (Try.sizePn _ _ _) rfl (one3 _ _ _ _ _) ?_
          have hkf := below_row16 hk16x hlox #[.int .i64 f1, .int .u32 m1, .slice Ax nb cx]
          refine hK.out _ _ ?_ (fun hHeld => ?_)
          · exact HSX.out _ hkf
          clear hK K
          (try simp only [Act.put, List.setIfInBounds_toArray, List.set_cons_zero, List.set_cons_succ])
          refine wpAnyH_done (by kernel_rfl) ?_ _
          go_wp2_with fail
          go_meet
          exact ⟨C, Ax, cx, rfl, hlox, hkf, setRow_heap _ _ _ _ _ _ hbxx, (PlsIn.setRow hpn (.inl fun h => h.2 rfl)).any⟩
      · obtain ⟨w18x, C, hw18, hB18, hl18, hb18, hbxx⟩ := box_any w3.drew #[.int .i64 0, .int .u32 0, .slice none 0 0] 25
        have hk18x := hkx.trans (hb18.mono hkx.size)
        have hlox : w3.heap.size ≤ C := by have := hkx.size; omega
        rw [if_pos (by kernel_rfl)]
        go_simp
        refine hK.out _ _ ?_ (fun hHeld => ?_)
        · exact HSX.out _ hk18x
        clear hK K
        (try simp only [Act.put, List.setIfInBounds_toArray, List.set_cons_zero, List.set_cons_succ])
        refine wpAnyH_ready (rs := [3]) (by kernel_rfl) (by simp) ?_
        refine AllReadyH.cons (o := ⟨some 15, _, _, _, _, _⟩) rfl (fun K hK => ?_) AllReadyH.nil
        rw [if_pos (by kernel_rfl)]
        go_simp
        go_at_call 15; refine (HCX.out _ hk18x).mono ?_; rintro e w19x ⟨Aqx, cqx, rfl, hchx, hb19⟩
        have hk19x := hk18x.trans (hb19.mono hk18x.size)
        have hbxx := keep_block hbxx hb19
        refine hK.out _ _ ?_ (fun hHeld => ?_)
        · exact HSX.out _ hk19x
        clear hK K
        (try simp only [Act.put, List.setIfInBounds_toArray, List.set_cons_zero, List.set_cons_succ])
        refine wpAnyH_ready (rs := [4]) (by kernel_rfl) (by simp) ?_
        refine AllReadyH.cons (o := ⟨some 16, _, _, _, _, _⟩) rfl (fun K hK => ?_) AllReadyH.nil
        rw [if_pos (by kernel_rfl)]
        go_simp
        go_at_call 20; refine (HAX.out _ _ hk19x hchx).mono ?_; rintro e w20x ⟨Ax, cx, rfl, hplx, hb20⟩
        have hk20x := hk19x.trans (hb20.mono hk19x.size)
        have hchx := hchx.keep hb20
        have hbxx := keep_block hbxx hb20
        refine hK.out _ _ ?_ (fun hHeld => ?_)
        · exact HSX.out _ hk20x
        clear hK K
        (try simp only [Act.put, List.setIfInBounds_toArray, List.set_cons_zero, List.set_cons_succ])
        refine wpAnyH_ready (rs := [6]) (by kernel_rfl) (by simp) ?_
        refine AllReadyH.cons (o := ⟨none, _, _, _, _, _⟩) rfl (fun K hK => ?_) AllReadyH.nil
        have hpn := pls_not (M := 0) hbxx hplx
        rw [if_pos (by kernel_rfl)]
        refine wp_store_row _ _ _ rfl C #[.int .i64 f1, .int .u32 m1, .slice Ax nb cx] rfl rfl 25 #[.int .i64 0, .int .u32 0, .slice none 0 0] hbxx (Try.sizePn _ _ _) rfl (one3 _ _ _ _ _) ?_
        have hkf := below_row16 hk20x hlox #[.int .i64 f1, .int .u32 m1, .slice Ax nb cx]
        refine hK.out _ _ ?_ (fun hHeld => ?_)
        · exact HSX.out _ hkf
        clear hK K
        (try simp only [Act.put, List.setIfInBounds_toArray, List.set_cons_zero, List.set_cons_succ])
        refine wpAnyH_done (by kernel_rfl) ?_ _
        go_wp2_with fail
        go_meet
        exact ⟨C, Ax, cx, rfl, hlox, hkf, setRow_heap _ _ _ _ _ _ hbxx, (PlsIn.setRow hpn (.inl fun h => h.2 rfl)).any⟩
    case rest =>
      obtain ⟨C, Ax, cx, rfl, hC0, hkX, hCb, hCp⟩ := hcut
      obtain ⟨wX, hwX⟩ : ∃ w, w = wc := ⟨_, rfl⟩
      subst hwX
      have HCB := Lib.hid hCb
      have HCP := Lib.hid hCp
      have HKX := Lib.hid (HK1.out.trans (hkX.mono HK1.out.size))
      have HC0 := Lib.hid (show w2.heap.size ≤ C by have := HK1.out.size; omega)
      have HCL := Lib.hid (heap_lt hCb)
      have HSY : Hid (∀ W, Below wX.heap.size wX W → W.cell? ⟨P, 0, none⟩ = some (.int .i64 f1) ∧ W.cell? ⟨P, 1, none⟩ = some (.int .u32 m1) ∧ W.cell? ⟨P, 2, none⟩ = some v1 ∧ W.cell? ⟨C, 0, none⟩ = some (.int .i64 f1) ∧ W.cell? ⟨C, 1, none⟩ = some (.int .u32 m1) ∧ W.cell? ⟨C, 2, none⟩ = some (.slice Ax nb cx)) := Lib.hid (fun W hk => by
        obtain ⟨a, b, c, _, _, _⟩ := HSA.out W (HKX.out.trans (hk.mono HKX.out.size))
        obtain ⟨d, e, f⟩ := three_heads (keep_block HCB.out hk)
        exact ⟨a, b, c, d, e, f⟩)
      have HCY := Lib.hid (fun W (hk : Below wX.heap.size wX W) => HCY0.out (.slice Ax nb cx) W (HCP.out.keep hk) (HKX.out.trans (hk.mono HKX.out.size)))
      have HAY := Lib.hid (fun vl W (hk : Below wX.heap.size wX W) => HAY0.out (.slice Ax nb cx) vl W (HCP.out.keep hk))
      clear hC0 hkX hCb hCp
      go_upto_region 4 with fail
      go_cut [6] from 17 to 22 (fun s6 wx => ∃ (D : Nat) (Ay : Option Addr) (cy : Nat), s6 = .pointer (some ⟨D, 0, none⟩) ∧ wX.heap.size ≤ D ∧ Below wX.heap.size wX wx ∧ wx.heap[D]? = some (.cells #[.int .i64 f1, .int .u32 m1, .slice Ay na cy] 25 (0, 0)) ∧ PlsAt wx (.slice Ay na cy) la)
      case first =>
        have hky : Below wX.heap.size wX wX.drew := (Below.refl _ _).drew
        refine wp_region_held_drew (S := fun w' => w'.cell? ⟨P, 0, none⟩ = some (.int .i64 f1) ∧ w'.cell? ⟨P, 1, none⟩ = some (.int .u32 m1) ∧ w'.cell? ⟨P, 2, none⟩ = some (v1) ∧ w'.cell? ⟨C, 0, none⟩ = some (.int .i64 f1) ∧ w'.cell? ⟨C, 1, none⟩ = some (.int .u32 m1) ∧ w'.cell? ⟨C, 2, none⟩ = some (.slice Ax nb cx)) (by kernel_rfl) ?_ (fun hHeld => ?_)
        · exact HSY.out _ hky
        refine wpAnyH_take (i := 0) (oi := ⟨some 17, _, _, _, _, _⟩) (v := ?_) rfl (by kernel_rfl) (by kernel_rfl) (by kernel_rfl) (fun _ _ _ h => h) (Or.inl ⟨by kernel_rfl, ?_⟩) (by assumption) ?_
        rotate_left
        · (intro w hSw; (try dsimp only at hSw); go_simp; try with_reducible rfl)
        (try simp only [Act.put, List.setIfInBounds_toArray, List.set_cons_zero, List.set_cons_succ])
        refine wpAnyH_take (i := 1) (oi := ⟨some 18, _, _, _, _, _⟩) (v := ?_) rfl (by kernel_rfl) (by kernel_rfl) (by kernel_rfl) (fun _ _ _ h => h) (Or.inl ⟨by kernel_rfl, ?_⟩) (by assumption) ?_
        rotate_left
        · (intro w hSw; (try dsimp only at hSw); go_simp; try with_reducible rfl)
        (try simp only [Act.put, List.setIfInBounds_toArray, List.set_cons_zero, List.set_cons_succ])
        refine wpAnyH_take (i := 2) (oi := ⟨some 19, _, _, _, _, _⟩) (v := ?_) rfl (by kernel_rfl) (by kernel_rfl) (by kernel_rfl) (fun _ _ _ h => h) (Or.inl ⟨by kernel_rfl, ?_⟩) (by assumption) ?_
        rotate_left
        · (intro w hSw; (try dsimp only at hSw); go_simp; try with_reducible rfl)
        (try simp only [Act.put, List.setIfInBounds_toArray, List.set_cons_zero, List.set_cons_succ])
        refine wpAnyH_ready (rs := [3, 5]) (by kernel_rfl) (by simp) ?_
        refine AllReadyH.cons (o := ⟨some 20, _, _, _, _, _⟩) rfl (fun K hK => ?_) (AllReadyH.cons (o := ⟨some 6, _, _, _, _, _⟩) rfl (fun K hK => ?_) AllReadyH.nil)
        · rw [if_pos (by kernel_rfl)]
          go_simp
          go_at_call 15; refine (HCY.out _ hky).mono ?_; rintro e w11y ⟨Aqy, cqy, rfl, hchy, hb11⟩
          have hk11y := hky.trans (hb11.mono hky.size)
          refine hK.out _ _ ?_ (fun hHeld => ?_)
          · exact HSY.out _ hk11y
          clear hK K
          (try simp only [Act.put, List.setIfInBounds_toArray, List.set_cons_zero, List.set_cons_succ])
          refine wpAnyH_ready (rs := [4, 5]) (by kernel_rfl) (by simp) ?_
          refine AllReadyH.cons (o := ⟨some 21, _, _, _, _, _⟩) rfl (fun K hK => ?_) (AllReadyH.cons (o := ⟨some 6, _, _, _, _, _⟩) rfl (fun K hK => ?_) AllReadyH.nil)
          · rw [if_pos (by kernel_rfl)]
            go_simp
            go_at_call 20; refine (HAY.out _ _ hk11y hchy).mono ?_; rintro e w12y ⟨Ay, cy, rfl, hply, hb12⟩
            have hk12y := hk11y.trans (hb12.mono hk11y.size)
            have hchy := hchy.keep hb12
            refine hK.out _ _ ?_ (fun hHeld => ?_)
            · exact HSY.out _ hk12y
            clear hK K
            (try simp only [Act.put, List.setIfInBounds_toArray, List.set_cons_zero, List.set_cons_succ])
            refine wpAnyH_ready (rs := [5]) (by kernel_rfl) (by simp) ?_
            refine AllReadyH.cons (o := ⟨some 6, _, _, _, _, _⟩) rfl (fun K hK => ?_) AllReadyH.nil
            obtain ⟨w13y, D, hw13, hB13, hl13, hb13, hbxy⟩ := box_any w12y #[.int .i64 0, .int .u32 0, .slice none 0 0] 25
            have hk13y := hk12y.trans (hb13.mono hk12y.size)
            have hloy : wX.heap.size ≤ D := by have := hk12y.size; omega
            have hchy := hchy.keep hb13
            have hply := hply.keep hb13
            rw [if_pos (by kernel_rfl)]
            go_simp
            refine hK.out _ _ ?_ (fun hHeld => ?_)
            · exact HSY.out _ hk13y
            clear hK K
            (try simp only [Act.put, List.setIfInBounds_toArray, List.set_cons_zero, List.set_cons_succ])
            refine wpAnyH_ready (rs := [6]) (by kernel_rfl) (by simp) ?_
            refine AllReadyH.cons (o := ⟨none, _, _, _, _, _⟩) rfl (fun K hK => ?_) AllReadyH.nil
            have hpn := pls_not (M := 0) hbxy hply
            rw [if_pos (by kernel_rfl)]
            refine wp_store_row _ _ _ rfl D #[.int .i64 f1, .int .u32 m1, .slice Ay na cy] rfl rfl 25 #[.int .i64 0, .int .u32 0, .slice none 0 0] hbxy (Try.sizePn _ _ _) rfl (one3 _ _ _ _ _) ?_
            have hkf := below_row16 hk13y hloy #[.int .i64 f1, .int .u32 m1, .slice Ay na cy]
            refine hK.out _ _ ?_ (fun hHeld => ?_)
            · exact HSY.out _ hkf
            clear hK K
            (try simp only [Act.put, List.setIfInBounds_toArray, List.set_cons_zero, List.set_cons_succ])
            refine wpAnyH_done (by kernel_rfl) ?_ _
            go_wp2_with fail
            go_meet
            exact ⟨D, Ay, cy, rfl, hloy, hkf, setRow_heap _ _ _ _ _ _ hbxy, (PlsIn.setRow hpn (.inl fun h => h.2 rfl)).any⟩
          · obtain ⟨w15y, D, hw15, hB15, hl15, hb15, hbxy⟩ := box_any w11y #[.int .i64 0, .int .u32 0, .slice none 0 0] 25
            have hk15y := hk11y.trans (hb15.mono hk11y.size)
            have hloy : wX.heap.size ≤ D := by have := hk11y.size; omega
            have hchy := hchy.keep hb15
            rw [if_pos (by kernel_rfl)]
            go_simp
            refine hK.out _ _ ?_ (fun hHeld => ?_)
            · exact HSY.out _ hk15y
            clear hK K
            (try simp only [Act.put, List.setIfInBounds_toArray, List.set_cons_zero, List.set_cons_succ])
            refine wpAnyH_ready (rs := [4]) (by kernel_rfl) (by simp) ?_
            refine AllReadyH.cons (o := ⟨some 21, _, _, _, _, _⟩) rfl (fun K hK => ?_) AllReadyH.nil
            rw [if_pos (by kernel_rfl)]
            go_simp
            go_at_call 20; refine (HAY.out _ _ hk15y hchy).mono ?_; rintro e w16y ⟨Ay, cy, rfl, hply, hb16⟩
            have hk16y := hk15y.trans (hb16.mono hk15y.size)
            have hchy := hchy.keep hb16
            have hbxy := keep_block hbxy hb16
            refine hK.out _ _ ?_ (fun hHeld => ?_)
            · exact HSY.out _ hk16y
            clear hK K
            (try simp only [Act.put, List.setIfInBounds_toArray, List.set_cons_zero, List.set_cons_succ])
            refine wpAnyH_ready (rs := [6]) (by kernel_rfl) (by simp) ?_
            refine AllReadyH.cons (o := ⟨none, _, _, _, _, _⟩) rfl (fun K hK => ?_) AllReadyH.nil
            have hpn := pls_not (M := 0) hbxy hply
            rw [if_pos (by kernel_rfl)]
            refine wp_store_row _ _ _ rfl D #[.int .i64 f1, .int .u32 m1, .slice Ay na cy] rfl rfl 25 #[.int .i64 0, .int .u32 0, .slice none 0 0] hbxy (Try.sizePn _ _ _) rfl (one3 _ _ _ _ _) ?_
            have hkf := below_row16 hk16y hloy #[.int .i64 f1, .int .u32 m1, .slice Ay na cy]
            refine hK.out _ _ ?_ (fun hHeld => ?_)
            · exact HSY.out _ hkf
            clear hK K
            (try simp only [Act.put, List.setIfInBounds_toArray, List.set_cons_zero, List.set_cons_succ])
            refine wpAnyH_done (by kernel_rfl) ?_ _
            go_wp2_with fail
            go_meet
            exact ⟨D, Ay, cy, rfl, hloy, hkf, setRow_heap _ _ _ _ _ _ hbxy, (PlsIn.setRow hpn (.inl fun h => h.2 rfl)).any⟩
        · obtain ⟨w18y, D, hw18, hB18, hl18, hb18, hbxy⟩ := box_any wX.drew #[.int .i64 0, .int .u32 0, .slice none 0 0] 25
          have hk18y := hky.trans (hb18.mono hky.size)
          have hloy : wX.heap.size ≤ D := by have := hky.size; omega
          rw [if_pos (by kernel_rfl)]
          go_simp
          refine hK.out _ _ ?_ (fun hHeld => ?_)
          · exact HSY.out _ hk18y
          clear hK K
          (try simp only [Act.put, List.setIfInBounds_toArray, List.set_cons_zero, List.set_cons_succ])
          refine wpAnyH_ready (rs := [3]) (by kernel_rfl) (by simp) ?_
          refine AllReadyH.cons (o := ⟨some 20, _, _, _, _, _⟩) rfl (fun K hK => ?_) AllReadyH.nil
          rw [if_pos (by kernel_rfl)]
          go_simp
          go_at_call 15; refine (HCY.out _ hk18y).mono ?_; rintro e w19y ⟨Aqy, cqy, rfl, hchy, hb19⟩
          have hk19y := hk18y.trans (hb19.mono hk18y.size)
          have hbxy := keep_block hbxy hb19
          refine hK.out _ _ ?_ (fun hHeld => ?_)
          · exact HSY.out _ hk19y
          clear hK K
          (try simp only [Act.put, List.setIfInBounds_toArray, List.set_cons_zero, List.set_cons_succ])
          refine wpAnyH_ready (rs := [4]) (by kernel_rfl) (by simp) ?_
          refine AllReadyH.cons (o := ⟨some 21, _, _, _, _, _⟩) rfl (fun K hK => ?_) AllReadyH.nil
          rw [if_pos (by kernel_rfl)]
          go_simp
          go_at_call 20; refine (HAY.out _ _ hk19y hchy).mono ?_; rintro e w20y ⟨Ay, cy, rfl, hply, hb20⟩
          have hk20y := hk19y.trans (hb20.mono hk19y.size)
          have hchy := hchy.keep hb20
          have hbxy := keep_block hbxy hb20
          refine hK.out _ _ ?_ (fun hHeld => ?_)
          · exact HSY.out _ hk20y
          clear hK K
          (try simp only [Act.put, List.setIfInBounds_toArray, List.set_cons_zero, List.set_cons_succ])
          refine wpAnyH_ready (rs := [6]) (by kernel_rfl) (by simp) ?_
          refine AllReadyH.cons (o := ⟨none, _, _, _, _, _⟩) rfl (fun K hK => ?_) AllReadyH.nil
          have hpn := pls_not (M := 0) hbxy hply
          rw [if_pos (by kernel_rfl)]
          refine wp_store_row _ _ _ rfl D #[.int .i64 f1, .int .u32 m1, .slice Ay na cy] rfl rfl 25 #[.int .i64 0, .int .u32 0, .slice none 0 0] hbxy (Try.sizePn _ _ _) rfl (one3 _ _ _ _ _) ?_
          have hkf := below_row16 hk20y hloy #[.int .i64 f1, .int .u32 m1, .slice Ay na cy]
          refine hK.out _ _ ?_ (fun hHeld => ?_)
          · exact HSY.out _ hkf
          clear hK K
          (try simp only [Act.put, List.setIfInBounds_toArray, List.set_cons_zero, List.set_cons_succ])
          refine wpAnyH_done (by kernel_rfl) ?_ _
          go_wp2_with fail
          go_meet
          exact ⟨D, Ay, cy, rfl, hloy, hkf, setRow_heap _ _ _ _ _ _ hbxy, (PlsIn.setRow hpn (.inl fun h => h.2 rfl)).any⟩
      case rest =>
        obtain ⟨D, Ay, cy, rfl, hD0, hkY, hDb, hDp⟩ := hcut
        obtain ⟨wY, hwY⟩ : ∃ w, w = wc := ⟨_, rfl⟩
        subst hwY
        have HC5 := Lib.hid (keep_block HCB.out hkY)
        have HCP5 := Lib.hid (HCP.out.keep hkY)
        have HDB := Lib.hid hDb
        have HDP := Lib.hid hDp
        have HKY := Lib.hid (HKX.out.trans (hkY.mono HKX.out.size))
        have HDC := Lib.hid (show D ≠ C by have := HCL.out; omega)
        have HQC := Lib.hid (show Q ≠ C by have := HC0.out; omega)
        obtain ⟨_, _, _, q0, q1, q2⟩ := HSA.out _ HKY.out
        obtain ⟨x0, x1, x2⟩ := three_heads HC5.out
        have xz := box_frozen2 (o := 0) HC5.out
        clear hD0 hkY hDb hDp
        go_upto_region 5 with fail
        go_cut [] from 22 to 28 (fun wx => wx = (wY.drew.setCell ⟨C, 0, none⟩ (.int .i64 f2)).setCell ⟨C, 1, none⟩ (.int .u32 m2))
        case first =>
          refine wp_region_held_drew (S := fun w' => w'.cell? ⟨Q, 0, none⟩ = some (.int .i64 f2) ∧ w'.cell? ⟨Q, 1, none⟩ = some (.int .u32 m2)) (by kernel_rfl) ?_ (fun hHeld => ?_)
          · exact ⟨q0, q1⟩
          refine wpAnyH_take (i := 0) (oi := ⟨some 22, _, _, _, _, _⟩) (v := ?_) rfl (by kernel_rfl) (by kernel_rfl) (by kernel_rfl) (fun _ _ _ h => h) (Or.inl ⟨by kernel_rfl, ?_⟩) (by assumption) ?_
          rotate_left
          · (intro w hSw; (try dsimp only at hSw); go_simp; try with_reducible rfl)
          (try simp only [Act.put, List.setIfInBounds_toArray, List.set_cons_zero, List.set_cons_succ])
          refine wpAnyH_take (i := 1) (oi := ⟨some 23, _, _, _, _, _⟩) (v := ?_) rfl (by kernel_rfl) (by kernel_rfl) (by kernel_rfl) (fun _ _ _ h => h) (Or.inl ⟨by kernel_rfl, ?_⟩) (by assumption) ?_
          rotate_left
          · (intro w hSw; (try dsimp only at hSw); go_simp; try with_reducible rfl)
          (try simp only [Act.put, List.setIfInBounds_toArray, List.set_cons_zero, List.set_cons_succ])
          refine wpAnyH_take (i := 2) (oi := ⟨some 24, _, _, _, _, _⟩) (v := ?_) rfl (by kernel_rfl) (by kernel_rfl) (by kernel_rfl) (fun _ _ _ h => h) (Or.inl ⟨by kernel_rfl, ?_⟩) (by assumption) ?_
          rotate_left
          · (intro w hSw; (try dsimp only at hSw); go_simp; try with_reducible rfl)
          (try simp only [Act.put, List.setIfInBounds_toArray, List.set_cons_zero, List.set_cons_succ])
          refine wpAnyH_take (i := 3) (oi := ⟨some 25, _, _, _, _, _⟩) (v := ?_) rfl (by kernel_rfl) (by kernel_rfl) (by kernel_rfl) (fun _ _ _ h => h) (Or.inl ⟨by kernel_rfl, ?_⟩) (by assumption) ?_
          rotate_left
          · (intro w hSw; (try dsimp only at hSw); go_simp; try with_reducible rfl)
          (try simp only [Act.put, List.setIfInBounds_toArray, List.set_cons_zero, List.set_cons_succ])
          refine wpAnyH_take (i := 4) (oi := ⟨some 26, _, _, _, _, _⟩) (v := ?_) rfl (by kernel_rfl) (by kernel_rfl) (by kernel_rfl) (fun _ _ _ h => h) (Or.inl ⟨by kernel_rfl, ?_⟩) (by assumption) ?_
          rotate_left
          · (intro w hSw; (try dsimp only at hSw); go_simp; try with_reducible rfl)
          (try simp only [Act.put, List.setIfInBounds_toArray, List.set_cons_zero, List.set_cons_succ])
          refine wpAnyH_ready (rs := [5]) (by kernel_rfl) (by simp) ?_
          refine AllReadyH.cons (o := ⟨none, _, _, _, _, _⟩) rfl (fun K hK => ?_) AllReadyH.nil
          rw [if_pos (by kernel_rfl)]
          go_simp
          refine hK.out _ _ ?_ (fun hHeld => ?_)
          · exact ⟨(cell_same (setCell_any _ _ _ _ HQC.out) _).trans q0, (cell_same (setCell_any _ _ _ _ HQC.out) _).trans q1⟩
          clear hK K
          (try simp only [Act.put, List.setIfInBounds_toArray, List.set_cons_zero, List.set_cons_succ])
          have hx1 := heap_setCell_mem _ _ 0 _ _ _ (.int .i64 f2) HC5.out
          obtain ⟨y0, y1, y2⟩ := three_heads hx1
          have yz := box_frozen2 (o := 1) hx1
          have yz0 := box_frozen2 (o := 0) hx1
          refine wpAnyH_take (i := 6) (oi := ⟨some 27, _, _, _, _, _⟩) (v := ?_) rfl (by kernel_rfl) (by kernel_rfl) (by kernel_rfl) (fun _ _ _ h => h) (Or.inl ⟨by kernel_rfl, ?_⟩) (by assumption) ?_
          rotate_left
          · (intro w hSw; (try dsimp only at hSw); go_simp; try with_reducible rfl)
          (try simp only [Act.put, List.setIfInBounds_toArray, List.set_cons_zero, List.set_cons_succ])
          refine wpAnyH_ready (rs := [7]) (by kernel_rfl) (by simp) ?_
          refine AllReadyH.cons (o := ⟨none, _, _, _, _, _⟩) rfl (fun K hK => ?_) AllReadyH.nil
          rw [if_pos (by kernel_rfl)]
          go_simp
          refine hK.out _ _ ?_ (fun hHeld => ?_)
          · exact ⟨(cell_same (setCell_any _ _ _ _ HQC.out) _).trans ((cell_same (setCell_any _ _ _ _ HQC.out) _).trans q0), (cell_same (setCell_any _ _ _ _ HQC.out) _).trans ((cell_same (setCell_any _ _ _ _ HQC.out) _).trans q1)⟩
          clear hK K
          (try simp only [Act.put, List.setIfInBounds_toArray, List.set_cons_zero, List.set_cons_succ])
          refine wpAnyH_done (by kernel_rfl) ?_ _
          go_wp2_with fail
          go_meet
          exact rfl
        case rest =>
          have hx1 := heap_setCell_mem wY.drew C 0 _ _ _ (.int .i64 f2) HC5.out
          have hx2 := heap_setCell_mem _ C 1 _ _ _ (.int .u32 m2) hx1
          have hbl : ∀ k, k ≠ C → ((wY.drew.setCell ⟨C, 0, none⟩ (.int .i64 f2)).setCell ⟨C, 1, none⟩ (.int .u32 m2)).heap[k]? = wY.heap[k]? := fun k hk => (setCell_any _ C 1 k hk).trans (setCell_any _ C 0 k hk)
          have hbz : Below w2.heap.size w2 ((wY.drew.setCell ⟨C, 0, none⟩ (.int .i64 f2)).setCell ⟨C, 1, none⟩ (.int .u32 m2)) := ((HKY.out.drew).setCell (p := ⟨C, 0, none⟩) HC0.out _).setCell (p := ⟨C, 1, none⟩) HC0.out _
          have p1z : PlsAt ((wY.drew.setCell ⟨C, 0, none⟩ (.int .i64 f2)).setCell ⟨C, 1, none⟩ (.int .u32 m2)) (.slice Ax nb cx) lb := plsX_setCell (plsX_setCell (W := wY.drew) (HCP5.out.keep (Below.refl _ _).drew) HC5.out) hx1
          have p2z : PlsAt ((wY.drew.setCell ⟨C, 0, none⟩ (.int .i64 f2)).setCell ⟨C, 1, none⟩ (.int .u32 m2)) (.slice Ay na cy) la := plsX_setCell (plsX_setCell (W := wY.drew) (HDP.out.keep (Below.refl _ _).drew) HC5.out) hx1
          have hDz := (hbl D HDC.out).trans HDB.out
          obtain ⟨wZ, hwZ⟩ : ∃ w, w = (wY.drew.setCell ⟨C, 0, none⟩ (.int .i64 f2)).setCell ⟨C, 1, none⟩ (.int .u32 m2) := ⟨_, rfl⟩
          rw [← hwZ] at hcut hx2 hbz p1z p2z hDz
          subst hcut
          have HKZ := Lib.hid hbz
          have HCZ : Hid (wc.heap[C]? = some (.cells #[.int .i64 f2, .int .u32 m2, .slice Ax nb cx] 25 (0, 0))) := Lib.hid hx2
          have HDZ := Lib.hid hDz
          have HPZ1 := Lib.hid p1z
          have HPZ2 := Lib.hid p2z
          obtain ⟨c0, c1, c2⟩ := three_heads HCZ.out
          obtain ⟨p0, p1, p2, q0, q1, q2⟩ := HSA.out _ HKZ.out
          clear hx1 hx2 hbz p1z p2z hDz hbl x0 x1 x2 xz hwZ
          go_wp2_with fail
          refine (HSM1.out _ _ _ (HP2.out _ HKZ.out) HPZ1.out).mono ?_
          rintro e wd ⟨rfl, hbd⟩
          have HKD := Lib.hid (HKZ.out.trans (hbd.mono HKZ.out.size))
          obtain ⟨d0, d1, d2⟩ := three_heads (keep_block HDZ.out hbd)
          have HPD2 := Lib.hid (HPZ2.out.keep hbd)
          clear hbd p0 p1 p2 q0 q1 q2 c0 c1 c2
          obtain ⟨p0, p1, p2, q0, q1, q2⟩ := HSA.out _ HKD.out
          go_wp2_with fail
          refine (HSM2.out _ _ _ (HP1.out _ HKD.out) HPD2.out).mono ?_
          rintro e we ⟨rfl, hbe⟩
          have HKE := Lib.hid (HKD.out.trans (hbe.mono HKD.out.size))
          clear hbe p0 p1 p2 q0 q1 q2 d0 d1 d2
          go_wp2_with fail
          refine (HAW.out _).mono ?_
          rintro e wf ⟨rfl, hbf⟩
          have HBE := Lib.hid (HB2.out.trans ((HKE.out.trans (hbf.mono HKE.out.size)).mono HB2.out.size))
          clear hbf
          go_wp2_with fail
          go_ret
          exact ⟨rfl, HBE.out⟩
  · have HRN := Lib.hid (fun W hk => (HRI.out W hk).2 hgood)
    clear HRI hgood ho1 ho2 hm1 hm2
    go_enter Try.func5, Try.ntmps5
    go_wp2_with fail
    clear hw1 hw2 hP hQ
    refine (HRN.out _ HK0.out).mono ?_
    rintro e w3 ⟨rfl, hb⟩
    have HK1 := Lib.hid (HK0.out.trans (hb.mono HK0.out.size))
    clear hb p0 p1 p2 q0 q1 q2
    go_wp2_with fail
    refine (HAW.out _).mono ?_
    rintro e w5 ⟨rfl, hb5⟩
    have HBE := Lib.hid (HB2.out.trans ((HK1.out.trans (hb5.mono HK1.out.size)).mono HB2.out.size))
    clear hb5
    go_wp2_with fail
    go_ret
    exact ⟨rfl, HBE.out⟩
end Go.Proofs.Ytincbilobmhgeaa
