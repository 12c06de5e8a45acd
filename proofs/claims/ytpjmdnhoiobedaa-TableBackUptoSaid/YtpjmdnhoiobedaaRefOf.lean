/-
  The document's tables of a plan.
  Conditions: the slice reads as places; the numbers are of their kinds.
-/
import Derived.Test.YtpjmdnhoiobedaaSteps
set_option linter.unusedVariables false
set_option linter.unusedSimpArgs false
namespace Go.Proofs.Ytpjmdnhoiobedaa
open Go.RowKit Go.Sort

theorem spans_lt {W : World} {v : Value} {ps : List Sp} (h : SpansAt W v ps) : InB (fun b => b < W.heap.size) ps.length v := fun hn b hb => by
  obtain ⟨A, c, e, _, _, _, h3⟩ := h
  obtain ⟨b', off, rfl, hlt, _⟩ := h3 hn
  rw [e] at hb
  cases hb
  exact hlt
theorem SpansAt.setRow {W : World} {v : Value} {ps : List Sp} {X : Nat} {cs : Array Value} {n : Nat} (h : SpansAt W v ps) (hX : InB (fun b => b ≠ X) n v) (hn : n = ps.length := by first | rfl | assumption | (symm; assumption)) : SpansAt (W.setRow X cs) v ps :=
  spans_block h (by simp [World.setRow]) fun h0 b hb _ => setRow_other _ _ _ _ (hX (by omega) b hb)
theorem cell_set_ne {W : World} {p q : Addr} {v : Value} (h : q.block ≠ p.block) : (W.setCell p v).cell? q = W.cell? q := World.cell?_of_block (Below.heap_setCell _ _ _ _ h)
/-- All but block g is as it was. -/
def But (g : Nat) (w w' : World) : Prop := w.heap.size ≤ w'.heap.size ∧ ∀ b, b < w.heap.size → b ≠ g → w'.heap[b]? = w.heap[b]?
theorem But.refl (g : Nat) (w : World) : But g w w := ⟨Nat.le_refl _, fun _ _ _ => rfl⟩
theorem But.below {g : Nat} {a b c : World} (h : But g a b) (hb : Below b.heap.size b c) : But g a c := ⟨Nat.le_trans h.1 hb.size, fun k hk hg => (hb.block k (Nat.lt_of_lt_of_le hk h.1)).trans (h.2 k hk hg)⟩
theorem But.set_ {g t : Nat} {a b : World} (h : But g a b) (v : Value) : But g a (b.setCell ⟨g, t, none⟩ v) := ⟨by simpa [World.setCell] using h.1, fun k hk hg => (Below.heap_setCell _ _ _ _ (by exact hg)).trans (h.2 k hk hg)⟩
/-- Behind some places of the whole. -/
theorem own_next {l : List Pl} {k : Nat} {x : Pl} (hx : l[k]? = some x) {c : Int} {t z : Nat} (hz : nOn x.ps c t = z) : ownF (l.take (k + 1)) c t = if 0 < z then x.u else ownF (l.take k) c t := by rw [ownF_take hx, ← hz]; rfl
/-- The ticks ahead of t are told, t so far, the rest 0. -/
def rowS (n t : Nat) (F : Nat → Int) (a : Int) : List Int := rowN n fun s => if s < t then F s else if s = t then a else 0
theorem rowS_start (n : Nat) (F : Nat → Int) : rowS n 0 F 0 = zeros n := by
  rw [← rowN_zero]
  exact rowN_congr fun t _ => by simp
theorem rowS_set (n t : Nat) (F : Nat → Int) (a u : Int) : (rowS n t F a).set t u = rowS n t F u := by
  unfold rowS
  rw [rowN_set]
  refine rowN_congr fun s _ => ?_
  by_cases e : s = t
  · subst e; simp
  · simp [e]
theorem rowS_next (n t : Nat) (F : Nat → Int) : rowS n t F (F t) = rowS n (t + 1) F 0 := by
  refine rowN_congr fun s _ => ?_
  by_cases h1 : s < t
  · rw [if_pos h1, if_pos (by omega)]
  · by_cases h2 : s = t
    · subst h2; simp
    · rw [if_neg h1, if_neg h2, if_neg (by omega)]
      simp
theorem rowS_end (n : Nat) (F : Nat → Int) (a : Int) : rowS n n F a = rowN n F := rowN_congr fun s h => if_pos h
theorem rowS_cell {n t : Nat} (h : t < n) (F : Nat → Int) (a : Int) : (rowS n t F a)[t]? = some a := by
  unfold rowS
  rw [rowN_get _ h, if_neg (Nat.lt_irrefl t), if_pos rfl]

set_option maxRecDepth 100000 in
set_option maxHeartbeats 8000000 in
theorem refOf_any (n m : Nat) (v : Value) (l : List Pl) (w : World) (h : PlsAt w v l) (hL : LightL l) (hm : m < 4294967296) (hn : n ≤ 64) :
    Calls Try.prog 11 #[planA n m v] w (RetTabs (tabsOf n m l) w) := by
  obtain ⟨i0, hi, hz0, hz1, hz2⟩ := info_parts Try.infoTr
  have HLL := Lib.hid hL
  have HNB := Lib.hid hn
  obtain ⟨A, cA, rfl, hlc, hcm⟩ := h.form
  have HL := Lib.hid h
  obtain ⟨w1, P, hw1, hP, hPl, hb1, hbox⟩ := box_any w #[.int .i64 (n : Int), .int .u32 m, .slice A l.length cA] 25
  obtain ⟨L, hLn⟩ : ∃ L, l.length = L := ⟨_, rfl⟩
  have hl3 : L ≤ 300 := by rw [← hLn]; exact hL.len
  have HCO := Lib.hid (fun W => refCores_any n m (.slice A l.length cA) W hm)
  have HWO := Lib.hid (fun c W h => refWholes_own n m (.slice A l.length cA) l c W h (by omega))
  unfold planA at HCO HWO
  rw [hLn] at HL hlc hw1 hbox HCO HWO ⊢
  have HLN := Lib.hid hLn
  have HB1 := Lib.hid hb1
  have HBOX := Lib.hid hbox
  obtain ⟨r0, r1, r2⟩ := three_heads hbox
  have mixed : Try.prog.follows .mixedOrders = true := by kernel_rfl
  clear h hb1 hbox hL hLn
  unfold planA
  go_enter Try.func11, Try.ntmps11
  go_wp2_with fail
  have HB0 := Lib.hid (show Below w1.heap.size w1 (w1.alloc (Obj.cells #[] 39)) from (Below.refl _ _).alloc (Nat.le_refl _) _)
  have HO0 : Hid (RowTb 39 (w1.alloc (Obj.cells #[] 39)) w1.heap.size (fun _ => True) (.slice (some ⟨w1.heap.size, 0, none⟩) 0 0) []) :=
    ⟨⟨rfl, .inr ⟨w1.heap.size, 0, #[], rfl, Nat.le_refl _, heap_alloc_new w1 _, Nat.le_refl _, Nat.zero_le _, rfl, rfl⟩⟩, fun r hr => by cases hr⟩
  refine (HCO.out _).mono ?_
  rintro e w2 ⟨v2, rfl, hi2, hb2⟩
  obtain ⟨Ac, cc, rfl⟩ := hi2.form
  have HIC := Lib.hid hi2
  have HB2 := Lib.hid (HB0.out.trans (hb2.mono HB0.out.size))
  have HO2 := Lib.hid (HO0.out.keep hb2)
  have HBX2 := Lib.hid (keep_block HBOX.out HB2.out)
  obtain ⟨nc, hnc⟩ : ∃ nc, (ticksI m 16).length = nc := ⟨_, rfl⟩
  have hnc16 : nc ≤ 16 := by rw [← hnc, ticksI_length]; exact cntT_le _ _
  rw [hnc] at HIC ⊢
  have HNC := Lib.hid hnc
  have HN0 : Hid (InB (fun b => (Value.slice (some ⟨w1.heap.size, 0, none⟩) 0 0).ownBlock ≠ some b) nc (.slice Ac nc cc)) := Lib.hid (fun h0 b hb e => by
    obtain ⟨A', c', e1, _, h3⟩ := HIC.out
    injection e1 with e1 e2 e3
    subst e1
    obtain ⟨b4, o4, e4, h4, h5⟩ := h3 (by rw [HNC.out]; exact h0)
    subst e4
    cases hb
    have h6 : b4 = w1.heap.size := (Option.some.inj e).symm
    obtain ⟨y, hy⟩ := exP_at (xs := ticksI m 16) (k := 0) (by rw [HNC.out]; exact h0)
    have h7 := h5 0 y hy
    have h8 : w2.heap[b4]? = some (.cells #[] 39 (0, 0)) := by
      rw [h6]
      exact keep_block (heap_alloc_new w1 _) hb2
    simp [World.cell?, h8] at h7)
  clear hi2 hb2 hnc r0 r1 r2 hw1 hP
  obtain ⟨r0, r1, r2⟩ := three_heads HBX2.out
  go_wp2_with fail
  clear r0 r1 r2
  go_loopg [3, 5, 6, 7, 8] nc (fun gg s3 s5 _ _ _ wr => ∃ (i : Nat) (ls : List Rt), i ≤ nc ∧ gg = nc - i ∧ s5 = .int .i64 i ∧ w2.heap.size ≤ wr.heap.size ∧ Below w1.heap.size w1 wr ∧ IntsAt wr (.slice Ac nc cc) (ticksI m 16) ∧ InB (fun b => s3.ownBlock ≠ some b) nc (.slice Ac nc cc) ∧ tbsR ls = ((ticksI m 16).take i).map (tabOf n l) ∧ RowTb 39 wr w1.heap.size (fun _ => True) s3 ls)
  case atStart => exact ⟨0, [], Nat.zero_le _, by omega, rfl, Nat.le_refl _, HB2.out, HIC.out, HN0.out, rfl, HO2.out⟩
  case round =>
    obtain ⟨i, ls, hi1, hg1, rfl, hsw, hbw, hic, hne, hls, hrow⟩ := hrel
    have HNE := Lib.hid hne
    have HGI := Lib.hid hg1
    have HSW := Lib.hid hsw
    have HBW := Lib.hid hbw
    have HB := Lib.hid (HB1.out.trans (hbw.mono HB1.out.size))
    have HIW := Lib.hid hic
    have HLS := Lib.hid hls
    have HRW := Lib.hid hrow
    have HBX := Lib.hid (keep_block HBOX.out hbw)
    obtain ⟨r0, r1, r2⟩ := three_heads HBX.out
    have HLR := Lib.hid (HL.out.keep HB.out)
    clear hg1 hsw hbw hic hne hls hrow
    by_cases hil : i < nc
    · have hi0 : (0 : Int) ≤ (i : Int) := by omega
      have hiz : (i : Int) < (nc : Int) := by omega
      obtain ⟨c, hc⟩ := exP_at (xs := ticksI m 16) (k := i) (by rw [HNC.out]; exact hil)
      obtain ⟨bc, oc, hAc, lbc0, hcl⟩ : ∃ bc oc, Ac = some ⟨bc, oc, none⟩ ∧ bc < wr.heap.size ∧ ∀ (j : Nat) (x : Int), (ticksI m 16)[j]? = some x → wr.cell? ⟨bc, oc + j, none⟩ = some (.int .i64 x) := by
        obtain ⟨A', c', e, _, h3⟩ := HIW.out
        injection e with e1 e2 e3
        obtain ⟨b4, o4, e4, h4, h5⟩ := h3 (by rw [HNC.out]; omega)
        exact ⟨b4, o4, e1.trans e4, h4, h5⟩
      subst hAc
      have hcc := hcl i c hc
      have HC := Lib.hid hc
      have HCN : Hid (∃ q : Nat, c = (q : Int)) := Lib.hid (by
        unfold ticksI at hc
        rw [List.getElem?_map] at hc
        obtain ⟨q, _, rfl⟩ := Option.map_eq_some_iff.1 hc
        exact ⟨q, rfl⟩)
      have HLBC := Lib.hid lbc0
      have hn64 : n ≤ 1000 := by have := HNB.out; omega
      have hk0 : Below wr.heap.size wr wr.drew := (Below.refl _ wr).drew
      have HS2 : Hid (∀ W, Below wr.heap.size wr W → W.cell? ⟨P, 0, none⟩ = some (.int .i64 (n : Int)) ∧ W.cell? ⟨P, 1, none⟩ = some (.int .u32 m) ∧ W.cell? ⟨P, 2, none⟩ = some (.slice A L cA) ∧ W.cell? ⟨bc, oc + i, none⟩ = some (.int .i64 c)) := Lib.hid (fun W hk => by
        have h1 := heap_lt HBX.out
        exact ⟨(hk.cell (p := ⟨P, 0, none⟩) h1).trans r0, (hk.cell (p := ⟨P, 1, none⟩) h1).trans r1, (hk.cell (p := ⟨P, 2, none⟩) h1).trans r2, (hk.cell (p := ⟨bc, oc + i, none⟩) HLBC.out).trans hcc⟩)
      have HWH := Lib.hid (fun W (hk : Below wr.heap.size wr W) => HWO.out c W (HLR.out.keep hk))
      clear hcl hc lbc0
      go_upto_region 6 with fail
      go_cut [6] from 18 to 31 (fun s6 wx => ∃ (X g : Nat) (A2 : Option Addr) (c2 L2 : Nat), s6 = .pointer (some ⟨X, 0, none⟩) ∧ wr.heap.size ≤ X ∧ wr.heap.size ≤ g ∧ g ≠ X ∧ (wholesT l c).length = L2 ∧ wx.heap[X]? = some (.cells #[.int .i64 c, .slice (some ⟨g, 0, none⟩) n n, .slice A2 L2 c2] 39 (0, 0)) ∧ RowAt wx g (zeros n) ∧ SpansAt wx (.slice A2 L2 c2) (wholesT l c) ∧ InB (fun b => wr.heap.size ≤ b) L2 (.slice A2 L2 c2) ∧ InB (fun b => b ≠ g) L2 (.slice A2 L2 c2) ∧ InB (fun b => b ≠ X) L2 (.slice A2 L2 c2) ∧ Below wr.heap.size wr wx)
      case first =>
        refine wp_region_held_drew (S := fun w' => w'.cell? ⟨P, 0, none⟩ = some (.int .i64 (n : Int)) ∧ w'.cell? ⟨P, 1, none⟩ = some (.int .u32 m) ∧ w'.cell? ⟨P, 2, none⟩ = some (.slice A L cA) ∧ w'.cell? ⟨bc, oc + i, none⟩ = some (.int .i64 c)) (by kernel_rfl) ?_ (fun hHeld => ?_)
        · exact HS2.out _ hk0
        refine wpAnyH_take (i := 0) (oi := ⟨some 18, _, _, _, _, _⟩) (v := ?_) rfl (by kernel_rfl) (by kernel_rfl) (by kernel_rfl) (fun _ _ _ h => h) (Or.inl ⟨by kernel_rfl, ?_⟩) (by assumption) ?_
        rotate_left
        · (intro w hSw; (try dsimp only at hSw); go_simp; try with_reducible rfl)
        (try simp only [Act.put, List.setIfInBounds_toArray, List.set_cons_zero, List.set_cons_succ])
        refine wpAnyH_take (i := 1) (oi := ⟨some 19, _, _, _, _, _⟩) (v := ?_) rfl (by kernel_rfl) (by kernel_rfl) (by kernel_rfl) (fun _ _ _ h => h) (Or.inl ⟨by kernel_rfl, ?_⟩) (by assumption) ?_
        rotate_left
        · (intro w hSw; (try dsimp only at hSw); go_simp; try with_reducible rfl)
        (try simp only [Act.put, List.setIfInBounds_toArray, List.set_cons_zero, List.set_cons_succ])
        refine wpAnyH_take (i := 2) (oi := ⟨some 20, _, _, _, _, _⟩) (v := ?_) rfl (by kernel_rfl) (by kernel_rfl) (by kernel_rfl) (fun _ _ _ h => h) (Or.inl ⟨by kernel_rfl, ?_⟩) (by assumption) ?_
        rotate_left
        · (intro w hSw; (try dsimp only at hSw); go_simp; try with_reducible rfl)
        (try simp only [Act.put, List.setIfInBounds_toArray, List.set_cons_zero, List.set_cons_succ])
        refine wpAnyH_take (i := 3) (oi := ⟨some 21, _, _, _, _, _⟩) (v := ?_) rfl (by kernel_rfl) (by kernel_rfl) (by kernel_rfl) (fun _ _ _ h => h) (Or.inl ⟨by kernel_rfl, ?_⟩) (by assumption) ?_
        rotate_left
        · (intro w hSw; (try dsimp only at hSw); go_simp; try with_reducible rfl)
        (try simp only [Act.put, List.setIfInBounds_toArray, List.set_cons_zero, List.set_cons_succ])
        refine wpAnyH_take (i := 4) (oi := ⟨some 22, _, _, _, _, _⟩) (v := ?_) rfl (by kernel_rfl) (by kernel_rfl) (by kernel_rfl) (fun _ _ _ h => h) (Or.inl ⟨by kernel_rfl, ?_⟩) (by assumption) ?_
        rotate_left
        · (intro w hSw; (try dsimp only at hSw); go_simp; try with_reducible rfl)
        (try simp only [Act.put, List.setIfInBounds_toArray, List.set_cons_zero, List.set_cons_succ])
        refine wpAnyH_take (i := 5) (oi := ⟨some 23, _, _, _, _, _⟩) (v := ?_) rfl (by kernel_rfl) (by kernel_rfl) (by kernel_rfl) (fun _ _ _ h => h) (Or.inl ⟨by kernel_rfl, ?_⟩) (by assumption) ?_
        rotate_left
        · (intro w hSw; (try dsimp only at hSw); go_simp; try with_reducible rfl)
        (try simp only [Act.put, List.setIfInBounds_toArray, List.set_cons_zero, List.set_cons_succ])
        refine wpAnyH_take (i := 7) (oi := ⟨some 25, _, _, _, _, _⟩) (v := ?_) rfl (by kernel_rfl) (by kernel_rfl) (by kernel_rfl) (fun _ _ _ h => h) (Or.inl ⟨by kernel_rfl, ?_⟩) (by assumption) ?_
        rotate_left
        · (intro w hSw; (try dsimp only at hSw); go_simp; try with_reducible rfl)
        (try simp only [Act.put, List.setIfInBounds_toArray, List.set_cons_zero, List.set_cons_succ])
        refine wpAnyH_take (i := 8) (oi := ⟨some 26, _, _, _, _, _⟩) (v := ?_) rfl (by kernel_rfl) (by kernel_rfl) (by kernel_rfl) (fun _ _ _ h => h) (Or.inl ⟨by kernel_rfl, ?_⟩) (by assumption) ?_
        rotate_left
        · (intro w hSw; (try dsimp only at hSw); go_simp; try with_reducible rfl)
        (try simp only [Act.put, List.setIfInBounds_toArray, List.set_cons_zero, List.set_cons_succ])
        refine wpAnyH_take (i := 9) (oi := ⟨some 27, _, _, _, _, _⟩) (v := ?_) rfl (by kernel_rfl) (by kernel_rfl) (by kernel_rfl) (fun _ _ _ h => h) (Or.inl ⟨by kernel_rfl, ?_⟩) (by assumption) ?_
        rotate_left
        · (intro w hSw; (try dsimp only at hSw); go_simp; try with_reducible rfl)
        (try simp only [Act.put, List.setIfInBounds_toArray, List.set_cons_zero, List.set_cons_succ])
        refine wpAnyH_take (i := 10) (oi := ⟨some 28, _, _, _, _, _⟩) (v := ?_) rfl (by kernel_rfl) (by kernel_rfl) (by kernel_rfl) (fun _ _ _ h => h) (Or.inl ⟨by kernel_rfl, ?_⟩) (by assumption) ?_
        rotate_left
        · (intro w hSw; (try dsimp only at hSw); go_simp; try with_reducible rfl)
        (try simp only [Act.put, List.setIfInBounds_toArray, List.set_cons_zero, List.set_cons_succ])
        refine wpAnyH_take (i := 11) (oi := ⟨some 29, _, _, _, _, _⟩) (v := ?_) rfl (by kernel_rfl) (by kernel_rfl) (by kernel_rfl) (fun _ _ _ h => h) (Or.inl ⟨by kernel_rfl, ?_⟩) (by assumption) ?_
        rotate_left
        · (intro w hSw; (try dsimp only at hSw); go_simp; try with_reducible rfl)
        (try simp only [Act.put, List.setIfInBounds_toArray, List.set_cons_zero, List.set_cons_succ])
        refine wpAnyH_ready (rs := [6, 12, 14]) (by kernel_rfl) (by simp) ?_
        refine AllReadyH.cons (o := ⟨some 24, _, _, _, _, _⟩) rfl (fun K hK => ?_) (AllReadyH.cons (o := ⟨some 30, _, _, _, _, _⟩) rfl (fun K hK => ?_) (AllReadyH.cons (o := ⟨some 6, _, _, _, _, _⟩) rfl (fun K hK => ?_) AllReadyH.nil))
        · obtain ⟨wq1, g, hmk, hRow, hgl, hgl2, hb⟩ := mk_any wr.drew n hn64
          have hk1 := hk0.trans (hb.mono hk0.size)
          have q1 := hk0.size
          have hgw : wr.heap.size ≤ g := by omega
          clear q1
          rw [if_pos (by kernel_rfl)]
          go_simp
          refine hK.out _ _ ?_ (fun hHeld => ?_)
          · exact HS2.out _ hk1
          clear hK K
          (try simp only [Act.put, List.setIfInBounds_toArray, List.set_cons_zero, List.set_cons_succ])
          clear hb hmk hgl hgl2
          refine wpAnyH_ready (rs := [12, 14]) (by kernel_rfl) (by simp) ?_
          refine AllReadyH.cons (o := ⟨some 30, _, _, _, _, _⟩) rfl (fun K hK => ?_) (AllReadyH.cons (o := ⟨some 6, _, _, _, _, _⟩) rfl (fun K hK => ?_) AllReadyH.nil)
          · rw [if_pos (by kernel_rfl)]
            go_simp
            go_at_call 30; refine (HWH.out _ hk1).mono ?_; rintro e wq2 ⟨v2, rfl, hSp, hSb, hb⟩
            obtain ⟨A2, c2, rfl⟩ := hSp.form
            have hk2 := hk1.trans (hb.mono hk1.size)
            have q1 := hk1.size
            have q2 := hRow.lt
            have hSw : InB (fun b => wr.heap.size ≤ b) _ _ := hSb.mono fun b h => Nat.le_trans q1 h
            have hSg : InB (fun b => b ≠ g) _ _ := hSb.mono fun b h => by omega
            have hSl : InB (fun b => b < wq2.heap.size) _ _ := spans_lt hSp
            obtain ⟨L2, hL2⟩ : ∃ L2, (wholesT l c).length = L2 := ⟨_, rfl⟩
            rw [hL2] at hSp hSw hSl hSg ⊢
            clear q1 q2
            have hRow := hRow.below hb hRow.lt
            refine hK.out _ _ ?_ (fun hHeld => ?_)
            · exact HS2.out _ hk2
            clear hK K
            (try simp only [Act.put, List.setIfInBounds_toArray, List.set_cons_zero, List.set_cons_succ])
            clear hb hSb
            refine wpAnyH_take (i := 13) (oi := ⟨some 31, _, _, _, _, _⟩) (v := ?_) rfl (by kernel_rfl) (by kernel_rfl) (by kernel_rfl) (fun _ _ _ h => h) (Or.inl ⟨by kernel_rfl, ?_⟩) (by assumption) ?_
            rotate_left
            · (intro w hSw; (try dsimp only at hSw); go_simp; try with_reducible rfl)
            (try simp only [Act.put, List.setIfInBounds_toArray, List.set_cons_zero, List.set_cons_succ])
            refine wpAnyH_ready (rs := [14]) (by kernel_rfl) (by simp) ?_
            refine AllReadyH.cons (o := ⟨some 6, _, _, _, _, _⟩) rfl (fun K hK => ?_) AllReadyH.nil
            obtain ⟨wq3, X, hwX, hXe, hXl, hb, hXb⟩ := box_any wq2 #[.int .i64 0, .slice none 0 0, .slice none 0 0] 39
            have hk3 := hk2.trans (hb.mono hk2.size)
            have q1 := hk2.size
            have q2 := hRow.lt
            have hXw : wr.heap.size ≤ X := by omega
            have hgX : g ≠ X := by omega
            have hSX : InB (fun b => b ≠ X) L2 (.slice A2 L2 c2) := fun h0 b hb0 => by have := hSl h0 b hb0; omega
            clear q1 q2
            have hRow := hRow.below hb hRow.lt
            have hSp := hSp.keep hb
            have hSl : InB (fun b => b < wq3.heap.size) L2 (.slice A2 L2 c2) := hSl.mono fun b h => by have := hb.size; omega
            rw [if_pos (by kernel_rfl)]
            go_simp
            refine hK.out _ _ ?_ (fun hHeld => ?_)
            · exact HS2.out _ hk3
            clear hK K
            (try simp only [Act.put, List.setIfInBounds_toArray, List.set_cons_zero, List.set_cons_succ])
            clear hb hwX hXe hXl
            refine wpAnyH_ready (rs := [15]) (by kernel_rfl) (by simp) ?_
            refine AllReadyH.cons (o := ⟨none, _, _, _, _, _⟩) rfl (fun K hK => ?_) AllReadyH.nil
            refine step_store_row16 rfl _ _ _ rfl X #[.int .i64 c, .slice (some ⟨g, 0, none⟩) n n, .slice A2 L2 c2] (by simp [Act.eval, Act.put]) (by simp [Act.eval, Act.put]) 39 _ hXb (Try.sizeTr _ _ _) rfl (one3t _ _ _ _ _ _ _) ?_
            have hk4 := below_row hk3 hXw #[.int .i64 c, .slice (some ⟨g, 0, none⟩) n n, .slice A2 L2 c2]
            refine hK.out _ _ ?_ (fun hHeld => ?_)
            · exact HS2.out _ hk4
            clear hK K
            (try simp only [Act.put, List.setIfInBounds_toArray, List.set_cons_zero, List.set_cons_succ])
            refine wpAnyH_done (by kernel_rfl) ?_ _
            go_wp2_with fail
            go_meet
            exact ⟨X, g, A2, c2, L2, rfl, hXw, hgw, hgX, hL2, setRow_heap _ _ _ _ _ _ hXb, (setRow_other _ _ _ _ hgX).trans hRow, hSp.setRow hSX, hSw, hSg, hSX, hk4⟩
          · obtain ⟨wq2, X, hwX, hXe, hXl, hb, hXb⟩ := box_any wq1 #[.int .i64 0, .slice none 0 0, .slice none 0 0] 39
            have hk2 := hk1.trans (hb.mono hk1.size)
            have q1 := hk1.size
            have q2 := hRow.lt
            have hXw : wr.heap.size ≤ X := by omega
            have hgX : g ≠ X := by omega
            clear q1 q2
            have hRow := hRow.below hb hRow.lt
            rw [if_pos (by kernel_rfl)]
            go_simp
            refine hK.out _ _ ?_ (fun hHeld => ?_)
            · exact HS2.out _ hk2
            clear hK K
            (try simp only [Act.put, List.setIfInBounds_toArray, List.set_cons_zero, List.set_cons_succ])
            clear hb hwX hXe hXl
            refine wpAnyH_ready (rs := [12]) (by kernel_rfl) (by simp) ?_
            refine AllReadyH.cons (o := ⟨some 30, _, _, _, _, _⟩) rfl (fun K hK => ?_) AllReadyH.nil
            rw [if_pos (by kernel_rfl)]
            go_simp
            go_at_call 30; refine (HWH.out _ hk2).mono ?_; rintro e wq3 ⟨v2, rfl, hSp, hSb, hb⟩
            obtain ⟨A2, c2, rfl⟩ := hSp.form
            have hk3 := hk2.trans (hb.mono hk2.size)
            have q1 := hk2.size
            have q2 := hRow.lt
            have q3 := heap_lt hXb
            have hSw : InB (fun b => wr.heap.size ≤ b) _ _ := hSb.mono fun b h => Nat.le_trans q1 h
            have hSg : InB (fun b => b ≠ g) _ _ := hSb.mono fun b h => by omega
            have hSX : InB (fun b => b ≠ X) _ _ := hSb.mono fun b h => by omega
            have hSl : InB (fun b => b < wq3.heap.size) _ _ := spans_lt hSp
            obtain ⟨L2, hL2⟩ : ∃ L2, (wholesT l c).length = L2 := ⟨_, rfl⟩
            rw [hL2] at hSp hSw hSl hSg hSX ⊢
            clear q1 q2 q3
            have hRow := hRow.below hb hRow.lt
            have hXb := keep_block hXb hb
            refine hK.out _ _ ?_ (fun hHeld => ?_)
            · exact HS2.out _ hk3
            clear hK K
            (try simp only [Act.put, List.setIfInBounds_toArray, List.set_cons_zero, List.set_cons_succ])
            clear hb hSb
            refine wpAnyH_take (i := 13) (oi := ⟨some 31, _, _, _, _, _⟩) (v := ?_) rfl (by kernel_rfl) (by kernel_rfl) (by kernel_rfl) (fun _ _ _ h => h) (Or.inl ⟨by kernel_rfl, ?_⟩) (by assumption) ?_
            rotate_left
            · (intro w hSw; (try dsimp only at hSw); go_simp; try with_reducible rfl)
            (try simp only [Act.put, List.setIfInBounds_toArray, List.set_cons_zero, List.set_cons_succ])
            refine wpAnyH_ready (rs := [15]) (by kernel_rfl) (by simp) ?_
            refine AllReadyH.cons (o := ⟨none, _, _, _, _, _⟩) rfl (fun K hK => ?_) AllReadyH.nil
            refine step_store_row16 rfl _ _ _ rfl X #[.int .i64 c, .slice (some ⟨g, 0, none⟩) n n, .slice A2 L2 c2] (by simp [Act.eval, Act.put]) (by simp [Act.eval, Act.put]) 39 _ hXb (Try.sizeTr _ _ _) rfl (one3t _ _ _ _ _ _ _) ?_
            have hk4 := below_row hk3 hXw #[.int .i64 c, .slice (some ⟨g, 0, none⟩) n n, .slice A2 L2 c2]
            refine hK.out _ _ ?_ (fun hHeld => ?_)
            · exact HS2.out _ hk4
            clear hK K
            (try simp only [Act.put, List.setIfInBounds_toArray, List.set_cons_zero, List.set_cons_succ])
            refine wpAnyH_done (by kernel_rfl) ?_ _
            go_wp2_with fail
            go_meet
            exact ⟨X, g, A2, c2, L2, rfl, hXw, hgw, hgX, hL2, setRow_heap _ _ _ _ _ _ hXb, (setRow_other _ _ _ _ hgX).trans hRow, hSp.setRow hSX, hSw, hSg, hSX, hk4⟩
        · rw [if_pos (by kernel_rfl)]
          go_simp
          go_at_call 30; refine (HWH.out _ hk0).mono ?_; rintro e wq1 ⟨v2, rfl, hSp, hSb, hb⟩
          obtain ⟨A2, c2, rfl⟩ := hSp.form
          have hk1 := hk0.trans (hb.mono hk0.size)
          have q1 := hk0.size
          have hSw : InB (fun b => wr.heap.size ≤ b) _ _ := hSb.mono fun b h => Nat.le_trans q1 h
          have hSl : InB (fun b => b < wq1.heap.size) _ _ := spans_lt hSp
          obtain ⟨L2, hL2⟩ : ∃ L2, (wholesT l c).length = L2 := ⟨_, rfl⟩
          rw [hL2] at hSp hSw hSl ⊢
          clear q1
          refine hK.out _ _ ?_ (fun hHeld => ?_)
          · exact HS2.out _ hk1
          clear hK K
          (try simp only [Act.put, List.setIfInBounds_toArray, List.set_cons_zero, List.set_cons_succ])
          clear hb hSb
          refine wpAnyH_ready (rs := [6, 14]) (by kernel_rfl) (by simp) ?_
          refine AllReadyH.cons (o := ⟨some 24, _, _, _, _, _⟩) rfl (fun K hK => ?_) (AllReadyH.cons (o := ⟨some 6, _, _, _, _, _⟩) rfl (fun K hK => ?_) AllReadyH.nil)
          · obtain ⟨wq2, g, hmk, hRow, hgl, hgl2, hb⟩ := mk_any wq1 n hn64
            have hk2 := hk1.trans (hb.mono hk1.size)
            have q1 := hk1.size
            have hgw : wr.heap.size ≤ g := by omega
            have hSg : InB (fun b => b ≠ g) L2 (.slice A2 L2 c2) := fun h0 b hb0 => by have := hSl h0 b hb0; omega
            clear q1
            have hSp := hSp.keep hb
            have hSl : InB (fun b => b < wq2.heap.size) L2 (.slice A2 L2 c2) := hSl.mono fun b h => by have := hb.size; omega
            rw [if_pos (by kernel_rfl)]
            go_simp
            refine hK.out _ _ ?_ (fun hHeld => ?_)
            · exact HS2.out _ hk2
            clear hK K
            (try simp only [Act.put, List.setIfInBounds_toArray, List.set_cons_zero, List.set_cons_succ])
            clear hb hmk hgl hgl2
            refine wpAnyH_take (i := 13) (oi := ⟨some 31, _, _, _, _, _⟩) (v := ?_) rfl (by kernel_rfl) (by kernel_rfl) (by kernel_rfl) (fun _ _ _ h => h) (Or.inl ⟨by kernel_rfl, ?_⟩) (by assumption) ?_
            rotate_left
            · (intro w hSw; (try dsimp only at hSw); go_simp; try with_reducible rfl)
            (try simp only [Act.put, List.setIfInBounds_toArray, List.set_cons_zero, List.set_cons_succ])
            refine wpAnyH_ready (rs := [14]) (by kernel_rfl) (by simp) ?_
            refine AllReadyH.cons (o := ⟨some 6, _, _, _, _, _⟩) rfl (fun K hK => ?_) AllReadyH.nil
            obtain ⟨wq3, X, hwX, hXe, hXl, hb, hXb⟩ := box_any wq2 #[.int .i64 0, .slice none 0 0, .slice none 0 0] 39
            have hk3 := hk2.trans (hb.mono hk2.size)
            have q1 := hk2.size
            have q2 := hRow.lt
            have hXw : wr.heap.size ≤ X := by omega
            have hgX : g ≠ X := by omega
            have hSX : InB (fun b => b ≠ X) L2 (.slice A2 L2 c2) := fun h0 b hb0 => by have := hSl h0 b hb0; omega
            clear q1 q2
            have hRow := hRow.below hb hRow.lt
            have hSp := hSp.keep hb
            have hSl : InB (fun b => b < wq3.heap.size) L2 (.slice A2 L2 c2) := hSl.mono fun b h => by have := hb.size; omega
            rw [if_pos (by kernel_rfl)]
            go_simp
            refine hK.out _ _ ?_ (fun hHeld => ?_)
            · exact HS2.out _ hk3
            clear hK K
            (try simp only [Act.put, List.setIfInBounds_toArray, List.set_cons_zero, List.set_cons_succ])
            clear hb hwX hXe hXl
            refine wpAnyH_ready (rs := [15]) (by kernel_rfl) (by simp) ?_
            refine AllReadyH.cons (o := ⟨none, _, _, _, _, _⟩) rfl (fun K hK => ?_) AllReadyH.nil
            refine step_store_row16 rfl _ _ _ rfl X #[.int .i64 c, .slice (some ⟨g, 0, none⟩) n n, .slice A2 L2 c2] (by simp [Act.eval, Act.put]) (by simp [Act.eval, Act.put]) 39 _ hXb (Try.sizeTr _ _ _) rfl (one3t _ _ _ _ _ _ _) ?_
            have hk4 := below_row hk3 hXw #[.int .i64 c, .slice (some ⟨g, 0, none⟩) n n, .slice A2 L2 c2]
            refine hK.out _ _ ?_ (fun hHeld => ?_)
            · exact HS2.out _ hk4
            clear hK K
            (try simp only [Act.put, List.setIfInBounds_toArray, List.set_cons_zero, List.set_cons_succ])
            refine wpAnyH_done (by kernel_rfl) ?_ _
            go_wp2_with fail
            go_meet
            exact ⟨X, g, A2, c2, L2, rfl, hXw, hgw, hgX, hL2, setRow_heap _ _ _ _ _ _ hXb, (setRow_other _ _ _ _ hgX).trans hRow, hSp.setRow hSX, hSw, hSg, hSX, hk4⟩
          · obtain ⟨wq2, X, hwX, hXe, hXl, hb, hXb⟩ := box_any wq1 #[.int .i64 0, .slice none 0 0, .slice none 0 0] 39
            have hk2 := hk1.trans (hb.mono hk1.size)
            have q1 := hk1.size
            have hXw : wr.heap.size ≤ X := by omega
            have hSX : InB (fun b => b ≠ X) L2 (.slice A2 L2 c2) := fun h0 b hb0 => by have := hSl h0 b hb0; omega
            clear q1
            have hSp := hSp.keep hb
            have hSl : InB (fun b => b < wq2.heap.size) L2 (.slice A2 L2 c2) := hSl.mono fun b h => by have := hb.size; omega
            rw [if_pos (by kernel_rfl)]
            go_simp
            refine hK.out _ _ ?_ (fun hHeld => ?_)
            · exact HS2.out _ hk2
            clear hK K
            (try simp only [Act.put, List.setIfInBounds_toArray, List.set_cons_zero, List.set_cons_succ])
            clear hb hwX hXe hXl
            refine wpAnyH_ready (rs := [6]) (by kernel_rfl) (by simp) ?_
            refine AllReadyH.cons (o := ⟨some 24, _, _, _, _, _⟩) rfl (fun K hK => ?_) AllReadyH.nil
            obtain ⟨wq3, g, hmk, hRow, hgl, hgl2, hb⟩ := mk_any wq2 n hn64
            have hk3 := hk2.trans (hb.mono hk2.size)
            have q1 := hk2.size
            have q3 := heap_lt hXb
            have hgw : wr.heap.size ≤ g := by omega
            have hgX : g ≠ X := by omega
            have hSg : InB (fun b => b ≠ g) L2 (.slice A2 L2 c2) := fun h0 b hb0 => by have := hSl h0 b hb0; omega
            clear q1 q3
            have hXb := keep_block hXb hb
            have hSp := hSp.keep hb
            have hSl : InB (fun b => b < wq3.heap.size) L2 (.slice A2 L2 c2) := hSl.mono fun b h => by have := hb.size; omega
            rw [if_pos (by kernel_rfl)]
            go_simp
            refine hK.out _ _ ?_ (fun hHeld => ?_)
            · exact HS2.out _ hk3
            clear hK K
            (try simp only [Act.put, List.setIfInBounds_toArray, List.set_cons_zero, List.set_cons_succ])
            clear hb hmk hgl hgl2
            refine wpAnyH_take (i := 13) (oi := ⟨some 31, _, _, _, _, _⟩) (v := ?_) rfl (by kernel_rfl) (by kernel_rfl) (by kernel_rfl) (fun _ _ _ h => h) (Or.inl ⟨by kernel_rfl, ?_⟩) (by assumption) ?_
            rotate_left
            · (intro w hSw; (try dsimp only at hSw); go_simp; try with_reducible rfl)
            (try simp only [Act.put, List.setIfInBounds_toArray, List.set_cons_zero, List.set_cons_succ])
            refine wpAnyH_ready (rs := [15]) (by kernel_rfl) (by simp) ?_
            refine AllReadyH.cons (o := ⟨none, _, _, _, _, _⟩) rfl (fun K hK => ?_) AllReadyH.nil
            refine step_store_row16 rfl _ _ _ rfl X #[.int .i64 c, .slice (some ⟨g, 0, none⟩) n n, .slice A2 L2 c2] (by simp [Act.eval, Act.put]) (by simp [Act.eval, Act.put]) 39 _ hXb (Try.sizeTr _ _ _) rfl (one3t _ _ _ _ _ _ _) ?_
            have hk4 := below_row hk3 hXw #[.int .i64 c, .slice (some ⟨g, 0, none⟩) n n, .slice A2 L2 c2]
            refine hK.out _ _ ?_ (fun hHeld => ?_)
            · exact HS2.out _ hk4
            clear hK K
            (try simp only [Act.put, List.setIfInBounds_toArray, List.set_cons_zero, List.set_cons_succ])
            refine wpAnyH_done (by kernel_rfl) ?_ _
            go_wp2_with fail
            go_meet
            exact ⟨X, g, A2, c2, L2, rfl, hXw, hgw, hgX, hL2, setRow_heap _ _ _ _ _ _ hXb, (setRow_other _ _ _ _ hgX).trans hRow, hSp.setRow hSX, hSw, hSg, hSX, hk4⟩
        · obtain ⟨wq1, X, hwX, hXe, hXl, hb, hXb⟩ := box_any wr.drew #[.int .i64 0, .slice none 0 0, .slice none 0 0] 39
          have hk1 := hk0.trans (hb.mono hk0.size)
          have q1 := hk0.size
          have hXw : wr.heap.size ≤ X := by omega
          clear q1
          rw [if_pos (by kernel_rfl)]
          go_simp
          refine hK.out _ _ ?_ (fun hHeld => ?_)
          · exact HS2.out _ hk1
          clear hK K
          (try simp only [Act.put, List.setIfInBounds_toArray, List.set_cons_zero, List.set_cons_succ])
          clear hb hwX hXe hXl
          refine wpAnyH_ready (rs := [6, 12]) (by kernel_rfl) (by simp) ?_
          refine AllReadyH.cons (o := ⟨some 24, _, _, _, _, _⟩) rfl (fun K hK => ?_) (AllReadyH.cons (o := ⟨some 30, _, _, _, _, _⟩) rfl (fun K hK => ?_) AllReadyH.nil)
          · obtain ⟨wq2, g, hmk, hRow, hgl, hgl2, hb⟩ := mk_any wq1 n hn64
            have hk2 := hk1.trans (hb.mono hk1.size)
            have q1 := hk1.size
            have q3 := heap_lt hXb
            have hgw : wr.heap.size ≤ g := by omega
            have hgX : g ≠ X := by omega
            clear q1 q3
            have hXb := keep_block hXb hb
            rw [if_pos (by kernel_rfl)]
            go_simp
            refine hK.out _ _ ?_ (fun hHeld => ?_)
            · exact HS2.out _ hk2
            clear hK K
            (try simp only [Act.put, List.setIfInBounds_toArray, List.set_cons_zero, List.set_cons_succ])
            clear hb hmk hgl hgl2
            refine wpAnyH_ready (rs := [12]) (by kernel_rfl) (by simp) ?_
            refine AllReadyH.cons (o := ⟨some 30, _, _, _, _, _⟩) rfl (fun K hK => ?_) AllReadyH.nil
            rw [if_pos (by kernel_rfl)]
            go_simp
            go_at_call 30; refine (HWH.out _ hk2).mono ?_; rintro e wq3 ⟨v2, rfl, hSp, hSb, hb⟩
            obtain ⟨A2, c2, rfl⟩ := hSp.form
            have hk3 := hk2.trans (hb.mono hk2.size)
            have q1 := hk2.size
            have q2 := hRow.lt
            have q3 := heap_lt hXb
            have hSw : InB (fun b => wr.heap.size ≤ b) _ _ := hSb.mono fun b h => Nat.le_trans q1 h
            have hSg : InB (fun b => b ≠ g) _ _ := hSb.mono fun b h => by omega
            have hSX : InB (fun b => b ≠ X) _ _ := hSb.mono fun b h => by omega
            have hSl : InB (fun b => b < wq3.heap.size) _ _ := spans_lt hSp
            obtain ⟨L2, hL2⟩ : ∃ L2, (wholesT l c).length = L2 := ⟨_, rfl⟩
            rw [hL2] at hSp hSw hSl hSg hSX ⊢
            clear q1 q2 q3
            have hRow := hRow.below hb hRow.lt
            have hXb := keep_block hXb hb
            refine hK.out _ _ ?_ (fun hHeld => ?_)
            · exact HS2.out _ hk3
            clear hK K
            (try simp only [Act.put, List.setIfInBounds_toArray, List.set_cons_zero, List.set_cons_succ])
            clear hb hSb
            refine wpAnyH_take (i := 13) (oi := ⟨some 31, _, _, _, _, _⟩) (v := ?_) rfl (by kernel_rfl) (by kernel_rfl) (by kernel_rfl) (fun _ _ _ h => h) (Or.inl ⟨by kernel_rfl, ?_⟩) (by assumption) ?_
            rotate_left
            · (intro w hSw; (try dsimp only at hSw); go_simp; try with_reducible rfl)
            (try simp only [Act.put, List.setIfInBounds_toArray, List.set_cons_zero, List.set_cons_succ])
            refine wpAnyH_ready (rs := [15]) (by kernel_rfl) (by simp) ?_
            refine AllReadyH.cons (o := ⟨none, _, _, _, _, _⟩) rfl (fun K hK => ?_) AllReadyH.nil
            refine step_store_row16 rfl _ _ _ rfl X #[.int .i64 c, .slice (some ⟨g, 0, none⟩) n n, .slice A2 L2 c2] (by simp [Act.eval, Act.put]) (by simp [Act.eval, Act.put]) 39 _ hXb (Try.sizeTr _ _ _) rfl (one3t _ _ _ _ _ _ _) ?_
            have hk4 := below_row hk3 hXw #[.int .i64 c, .slice (some ⟨g, 0, none⟩) n n, .slice A2 L2 c2]
            refine hK.out _ _ ?_ (fun hHeld => ?_)
            · exact HS2.out _ hk4
            clear hK K
            (try simp only [Act.put, List.setIfInBounds_toArray, List.set_cons_zero, List.set_cons_succ])
            refine wpAnyH_done (by kernel_rfl) ?_ _
            go_wp2_with fail
            go_meet
            exact ⟨X, g, A2, c2, L2, rfl, hXw, hgw, hgX, hL2, setRow_heap _ _ _ _ _ _ hXb, (setRow_other _ _ _ _ hgX).trans hRow, hSp.setRow hSX, hSw, hSg, hSX, hk4⟩
          · rw [if_pos (by kernel_rfl)]
            go_simp
            go_at_call 30; refine (HWH.out _ hk1).mono ?_; rintro e wq2 ⟨v2, rfl, hSp, hSb, hb⟩
            obtain ⟨A2, c2, rfl⟩ := hSp.form
            have hk2 := hk1.trans (hb.mono hk1.size)
            have q1 := hk1.size
            have q3 := heap_lt hXb
            have hSw : InB (fun b => wr.heap.size ≤ b) _ _ := hSb.mono fun b h => Nat.le_trans q1 h
            have hSX : InB (fun b => b ≠ X) _ _ := hSb.mono fun b h => by omega
            have hSl : InB (fun b => b < wq2.heap.size) _ _ := spans_lt hSp
            obtain ⟨L2, hL2⟩ : ∃ L2, (wholesT l c).length = L2 := ⟨_, rfl⟩
            rw [hL2] at hSp hSw hSl hSX ⊢
            clear q1 q3
            have hXb := keep_block hXb hb
            refine hK.out _ _ ?_ (fun hHeld => ?_)
            · exact HS2.out _ hk2
            clear hK K
            (try simp only [Act.put, List.setIfInBounds_toArray, List.set_cons_zero, List.set_cons_succ])
            clear hb hSb
            refine wpAnyH_ready (rs := [6]) (by kernel_rfl) (by simp) ?_
            refine AllReadyH.cons (o := ⟨some 24, _, _, _, _, _⟩) rfl (fun K hK => ?_) AllReadyH.nil
            obtain ⟨wq3, g, hmk, hRow, hgl, hgl2, hb⟩ := mk_any wq2 n hn64
            have hk3 := hk2.trans (hb.mono hk2.size)
            have q1 := hk2.size
            have q3 := heap_lt hXb
            have hgw : wr.heap.size ≤ g := by omega
            have hgX : g ≠ X := by omega
            have hSg : InB (fun b => b ≠ g) L2 (.slice A2 L2 c2) := fun h0 b hb0 => by have := hSl h0 b hb0; omega
            clear q1 q3
            have hXb := keep_block hXb hb
            have hSp := hSp.keep hb
            have hSl : InB (fun b => b < wq3.heap.size) L2 (.slice A2 L2 c2) := hSl.mono fun b h => by have := hb.size; omega
            rw [if_pos (by kernel_rfl)]
            go_simp
            refine hK.out _ _ ?_ (fun hHeld => ?_)
            · exact HS2.out _ hk3
            clear hK K
            (try simp only [Act.put, List.setIfInBounds_toArray, List.set_cons_zero, List.set_cons_succ])
            clear hb hmk hgl hgl2
            refine wpAnyH_take (i := 13) (oi := ⟨some 31, _, _, _, _, _⟩) (v := ?_) rfl (by kernel_rfl) (by kernel_rfl) (by kernel_rfl) (fun _ _ _ h => h) (Or.inl ⟨by kernel_rfl, ?_⟩) (by assumption) ?_
            rotate_left
            · (intro w hSw; (try dsimp only at hSw); go_simp; try with_reducible rfl)
            (try simp only [Act.put, List.setIfInBounds_toArray, List.set_cons_zero, List.set_cons_succ])
            refine wpAnyH_ready (rs := [15]) (by kernel_rfl) (by simp) ?_
            refine AllReadyH.cons (o := ⟨none, _, _, _, _, _⟩) rfl (fun K hK => ?_) AllReadyH.nil
            refine step_store_row16 rfl _ _ _ rfl X #[.int .i64 c, .slice (some ⟨g, 0, none⟩) n n, .slice A2 L2 c2] (by simp [Act.eval, Act.put]) (by simp [Act.eval, Act.put]) 39 _ hXb (Try.sizeTr _ _ _) rfl (one3t _ _ _ _ _ _ _) ?_
            have hk4 := below_row hk3 hXw #[.int .i64 c, .slice (some ⟨g, 0, none⟩) n n, .slice A2 L2 c2]
            refine hK.out _ _ ?_ (fun hHeld => ?_)
            · exact HS2.out _ hk4
            clear hK K
            (try simp only [Act.put, List.setIfInBounds_toArray, List.set_cons_zero, List.set_cons_succ])
            refine wpAnyH_done (by kernel_rfl) ?_ _
            go_wp2_with fail
            go_meet
            exact ⟨X, g, A2, c2, L2, rfl, hXw, hgw, hgX, hL2, setRow_heap _ _ _ _ _ _ hXb, (setRow_other _ _ _ _ hgX).trans hRow, hSp.setRow hSX, hSw, hSg, hSX, hk4⟩
      case rest =>
        obtain ⟨X, g, A2, c2, L2, rfl, hXw, hgw, hgX, hL2, hXb, hRow, hSp, hSw, hSg, hSX, hkw⟩ := hcut
        obtain ⟨wo, rfl⟩ : ∃ wo : World, wo = wr := ⟨_, rfl⟩
        have HXW := Lib.hid hXw
        have HGW := Lib.hid hgw
        have HGX := Lib.hid hgX
        have HL2 := Lib.hid hL2
        have HROW := Lib.hid hRow
        have HSW2 := Lib.hid hSw
        have HSG := Lib.hid hSg
        have HKW := Lib.hid hkw
        have lP := heap_lt HBX.out
        have lbc := HLBC.out
        have hPg : P ≠ g := by omega
        have hbcg : bc ≠ g := by omega
        have HKP : Hid (∀ W, Below wo.heap.size wo W → W.heap[P]? = some (.cells #[.int .i64 (n : Int), .int .u32 m, .slice A L cA] 25 (0, 0))) := Lib.hid (fun W hk => keep_block HBX.out hk)
        have HKX : Hid (∀ W, But g wc W → W.heap[X]? = some (.cells #[.int .i64 c, .slice (some ⟨g, 0, none⟩) n n, .slice A2 L2 c2] 39 (0, 0))) := Lib.hid (fun W hk => (hk.2 X (heap_lt hXb) (Ne.symm hgX)).trans hXb)
        have HKS : Hid (∀ W, But g wc W → SpansAt W (.slice A2 L2 c2) (wholesT l c)) := Lib.hid (fun W hk => spans_block hSp hk.1 fun h0 b hb hl => hk.2 b hl (hSg (by omega) b hb))
        have HCC : Hid (∀ W, Below wo.heap.size wo W → W.cell? ⟨bc, oc + i, none⟩ = some (.int .i64 c)) := Lib.hid (fun W hk => (hk.cell (p := ⟨bc, oc + i, none⟩) lbc).trans hcc)
        clear hXw hgw hgX hL2 hXb hRow hSp hSw hSg hSX hkw r0 r1 r2 hcc lP hk0
        obtain ⟨r0, r1, r2⟩ := three_heads (HKP.out _ HKW.out)
        go_wp2_with fail
        clear r0 r1 r2
        go_loopg [7, 8] n (fun gg s7 _ wr => ∃ (t : Nat), t ≤ n ∧ gg = n - t ∧ s7 = .int .i64 t ∧ But g wc wr ∧ Below wo.heap.size wo wr ∧ RowAt wr g (rowS n t (ownF l c) 0))
        case atStart => exact ⟨0, Nat.zero_le _, by omega, rfl, But.refl _ _, HKW.out, by rw [rowS_start]; exact HROW.out⟩
        case round =>
          obtain ⟨t, ht, hgt, rfl, hkt, hbt, hrt⟩ := hrel
          have HGT := Lib.hid hgt
          have HKT := Lib.hid hkt
          have HBT := Lib.hid hbt
          have HRT := Lib.hid hrt
          obtain ⟨r0, r1, r2⟩ := three_heads (HKP.out _ hbt)
          have hn64 : n ≤ 64 := HNB.out
          clear hgt hkt hbt hrt
          by_cases htn : t < n
          · have ht0 : (0 : Int) ≤ (t : Int) := by omega
            have htz : (t : Int) < (n : Int) := by omega
            go_wp2_with fail
            clear r0 r1 r2
            go_loopg [8] L (fun gg s8 wr => ∃ (k : Nat), k ≤ L ∧ gg = L - k ∧ s8 = .int .i64 k ∧ But g wc wr ∧ Below wo.heap.size wo wr ∧ RowAt wr g (rowS n t (ownF l c) (ownF (l.take k) c t)))
            case atStart => exact ⟨0, Nat.zero_le _, by omega, rfl, HKT.out, HBT.out, HRT.out⟩
            case round =>
              obtain ⟨k, hk, hgk, rfl, hkk, hbk, hrk⟩ := hrel
              have HGK := Lib.hid hgk
              have HKK := Lib.hid hkk
              have HBK := Lib.hid hbk
              have HRK := Lib.hid hrk
              obtain ⟨r0, r1, r2⟩ := three_heads (HKP.out _ hbk)
              have HLK := Lib.hid (HLR.out.keep hbk)
              clear hgk hkk hbk hrk
              by_cases hkl : k < L
              · have hk0 : (0 : Int) ≤ (k : Int) := by omega
                have hkz : (k : Int) < (L : Int) := by omega
                obtain ⟨x, hx⟩ := exP_at (xs := l) (k := k) (by rw [HLN.out]; exact hkl)
                obtain ⟨b, off, B, d, hA, hbl0, _, ⟨c0, c1, c2', c3⟩, hps⟩ := HLR.out.at_ hx
                have lb : b < wr.heap.size := Nat.lt_of_lt_of_le hbl0 HBK.out.size
                have hbg : b ≠ g := by have := HGW.out; omega
                have hc0 := (HBK.out.cell (p := ⟨b, off + k * 4, none⟩) hbl0).trans c0
                have hc1 := (HBK.out.cell (p := ⟨b, off + k * 4 + 1, none⟩) hbl0).trans c1
                have hc2 := (HBK.out.cell (p := ⟨b, off + k * 4 + 2, none⟩) hbl0).trans c2'
                have hc3 := (HBK.out.cell (p := ⟨b, off + k * 4 + 3, none⟩) hbl0).trans c3
                subst hA
                simp only at hc0 hc1 hc2 hc3
                have HX := Lib.hid hx
                have HPW := Lib.hid (hps.keep HBK.out)
                have hxo := HLL.out.ok x (List.mem_of_getElem? hx)
                have hc0' : 0 ≤ c := by obtain ⟨q, rfl⟩ := HCN.out; omega
                have HAT := Lib.hid (fun W h => at_any (.slice B x.ps.length d) x c t W h hxo.2 hxo.1.2.2.2 (by omega))
                rw [nAt_on hc0'] at HAT
                unfold plA at HAT
                have hzb : nOn x.ps c t ≤ 1000 := Nat.le_trans List.countP_le_length hxo.2
                obtain ⟨z, hz⟩ : ∃ z, nOn x.ps c t = z := ⟨_, rfl⟩
                rw [hz] at HAT hzb
                have HNX := Lib.hid (own_next HX.out hz)
                have lP := heap_lt (HKP.out _ HBK.out)
                have lbc2 : bc < wr.heap.size := Nat.lt_of_lt_of_le lbc HBK.out.size
                have hcc := HCC.out _ HBK.out
                clear hx hps c0 c1 c2' c3 hz hxo hc0'
                by_cases hzp : 0 < z
                · have hz1 : (0 : Int) < (z : Int) := by omega
                  have hz2 : decide ((0 : Int) < (z : Int)) = true := decide_eq_true hz1
                  have hz3 : decide (0 < z) = true := decide_eq_true hzp
                  rw [if_pos hzp] at HNX
                  go_wp2_with fail
                  refine wp_region_held_drew (S := fun w' => w'.cell? ⟨P, 0, none⟩ = some (.int .i64 (n : Int)) ∧ w'.cell? ⟨P, 1, none⟩ = some (.int .u32 m) ∧ w'.cell? ⟨P, 2, none⟩ = some (.slice (some ⟨b, off, none⟩) L cA) ∧ w'.cell? ⟨bc, oc + i, none⟩ = some (.int .i64 c) ∧ w'.cell? ⟨b, off + k * 4, none⟩ = some (.int .i64 x.u) ∧ w'.cell? ⟨b, off + k * 4 + 1, none⟩ = some (.int .i64 x.s) ∧ w'.cell? ⟨b, off + k * 4 + 2, none⟩ = some (.int .i64 x.c) ∧ w'.cell? ⟨b, off + k * 4 + 3, none⟩ = some (.slice B x.ps.length d)) (by kernel_rfl) ?_ (fun hHeld => ?_)
                  · exact ⟨r0, r1, r2, hcc, hc0, hc1, hc2, hc3⟩
                  refine wpAnyH_take (i := 0) (oi := ⟨some 45, _, _, _, _, _⟩) (v := ?_) rfl (by kernel_rfl) (by kernel_rfl) (by kernel_rfl) (fun _ _ _ h => h) (Or.inl ⟨by kernel_rfl, ?_⟩) (by assumption) ?_
                  rotate_left
                  · (intro w hSw; (try dsimp only at hSw); go_simp; try with_reducible rfl)
                  (try simp only [Act.put, List.setIfInBounds_toArray, List.set_cons_zero, List.set_cons_succ])
                  refine wpAnyH_take (i := 1) (oi := ⟨some 46, _, _, _, _, _⟩) (v := ?_) rfl (by kernel_rfl) (by kernel_rfl) (by kernel_rfl) (fun _ _ _ h => h) (Or.inl ⟨by kernel_rfl, ?_⟩) (by assumption) ?_
                  rotate_left
                  · (intro w hSw; (try dsimp only at hSw); go_simp; try with_reducible rfl)
                  (try simp only [Act.put, List.setIfInBounds_toArray, List.set_cons_zero, List.set_cons_succ])
                  refine wpAnyH_take (i := 2) (oi := ⟨some 47, _, _, _, _, _⟩) (v := ?_) rfl (by kernel_rfl) (by kernel_rfl) (by kernel_rfl) (fun _ _ _ h => h) (Or.inl ⟨by kernel_rfl, ?_⟩) (by assumption) ?_
                  rotate_left
                  · (intro w hSw; (try dsimp only at hSw); go_simp; try with_reducible rfl)
                  (try simp only [Act.put, List.setIfInBounds_toArray, List.set_cons_zero, List.set_cons_succ])
                  refine wpAnyH_take (i := 3) (oi := ⟨some 48, _, _, _, _, _⟩) (v := ?_) rfl (by kernel_rfl) (by kernel_rfl) (by kernel_rfl) (fun _ _ _ h => h) (Or.inl ⟨by kernel_rfl, ?_⟩) (by assumption) ?_
                  rotate_left
                  · (intro w hSw; (try dsimp only at hSw); go_simp; try with_reducible rfl)
                  (try simp only [Act.put, List.setIfInBounds_toArray, List.set_cons_zero, List.set_cons_succ])
                  refine wpAnyH_take (i := 4) (oi := ⟨some 49, _, _, _, _, _⟩) (v := ?_) rfl (by kernel_rfl) (by kernel_rfl) (by kernel_rfl) (fun _ _ _ h => h) (Or.inl ⟨by kernel_rfl, ?_⟩) (by assumption) ?_
                  rotate_left
                  · (intro w hSw; (try dsimp only at hSw); go_simp; try with_reducible rfl)
                  (try simp only [Act.put, List.setIfInBounds_toArray, List.set_cons_zero, List.set_cons_succ])
                  refine wpAnyH_take (i := 5) (oi := ⟨some 50, _, _, _, _, _⟩) (v := ?_) rfl (by kernel_rfl) (by kernel_rfl) (by kernel_rfl) (fun _ _ _ h => h) (Or.inl ⟨by kernel_rfl, ?_⟩) (by assumption) ?_
                  rotate_left
                  · (intro w hSw; (try dsimp only at hSw); go_simp; try with_reducible rfl)
                  (try simp only [Act.put, List.setIfInBounds_toArray, List.set_cons_zero, List.set_cons_succ])
                  refine wpAnyH_take (i := 6) (oi := ⟨some 51, _, _, _, _, _⟩) (v := ?_) rfl (by kernel_rfl) (by kernel_rfl) (by kernel_rfl) (fun _ _ _ h => h) (Or.inl ⟨by kernel_rfl, ?_⟩) (by assumption) ?_
                  rotate_left
                  · (intro w hSw; (try dsimp only at hSw); go_simp; try with_reducible rfl)
                  (try simp only [Act.put, List.setIfInBounds_toArray, List.set_cons_zero, List.set_cons_succ])
                  refine wpAnyH_take (i := 7) (oi := ⟨some 52, _, _, _, _, _⟩) (v := ?_) rfl (by kernel_rfl) (by kernel_rfl) (by kernel_rfl) (fun _ _ _ h => h) (Or.inl ⟨by kernel_rfl, ?_⟩) (by assumption) ?_
                  rotate_left
                  · (intro w hSw; (try dsimp only at hSw); go_simp; try with_reducible rfl)
                  (try simp only [Act.put, List.setIfInBounds_toArray, List.set_cons_zero, List.set_cons_succ])
                  refine wpAnyH_take (i := 8) (oi := ⟨some 53, _, _, _, _, _⟩) (v := ?_) rfl (by kernel_rfl) (by kernel_rfl) (by kernel_rfl) (fun _ _ _ h => h) (Or.inl ⟨by kernel_rfl, ?_⟩) (by assumption) ?_
                  rotate_left
                  · (intro w hSw; (try dsimp only at hSw); go_simp; try with_reducible rfl)
                  (try simp only [Act.put, List.setIfInBounds_toArray, List.set_cons_zero, List.set_cons_succ])
                  refine wpAnyH_take (i := 9) (oi := ⟨some 54, _, _, _, _, _⟩) (v := ?_) rfl (by kernel_rfl) (by kernel_rfl) (by kernel_rfl) (fun _ _ _ h => h) (Or.inl ⟨by kernel_rfl, ?_⟩) (by assumption) ?_
                  rotate_left
                  · (intro w hSw; (try dsimp only at hSw); go_simp; try with_reducible rfl)
                  (try simp only [Act.put, List.setIfInBounds_toArray, List.set_cons_zero, List.set_cons_succ])
                  refine wpAnyH_ready (rs := [10]) (by kernel_rfl) (by simp) ?_
                  refine AllReadyH.cons (o := ⟨some 55, _, _, _, _, _⟩) rfl (fun K hK => ?_) AllReadyH.nil
                  rw [if_pos (by kernel_rfl)]
                  go_simp
                  go_at_call 31; refine (HAT.out _ (HPW.out.keep ((Below.refl _ _).drew))).mono ?_; rintro e wq ⟨rfl, hbr⟩
                  refine hK.out _ _ ?_ (fun hHeld => ?_)
                  · exact ⟨(hbr.cell (p := ⟨P, 0, none⟩) lP).trans r0, (hbr.cell (p := ⟨P, 1, none⟩) lP).trans r1, (hbr.cell (p := ⟨P, 2, none⟩) lP).trans r2, (hbr.cell (p := ⟨bc, oc + i, none⟩) lbc2).trans hcc, (hbr.cell (p := ⟨b, off + k * 4, none⟩) lb).trans hc0, (hbr.cell (p := ⟨b, off + k * 4 + 1, none⟩) lb).trans hc1, (hbr.cell (p := ⟨b, off + k * 4 + 2, none⟩) lb).trans hc2, (hbr.cell (p := ⟨b, off + k * 4 + 3, none⟩) lb).trans hc3⟩
                  clear hK K
                  (try simp only [Act.put, List.setIfInBounds_toArray, List.set_cons_zero, List.set_cons_succ])
                  refine wpAnyH_take (i := 11) (oi := ⟨some 56, _, _, _, _, _⟩) (v := ?_) rfl (by kernel_rfl) (by kernel_rfl) (by kernel_rfl) (fun _ _ _ h => h) (Or.inl ⟨by kernel_rfl, ?_⟩) (by assumption) ?_
                  rotate_left
                  · (intro w hSw; (try dsimp only at hSw); go_simp; try with_reducible rfl)
                  (try simp only [Act.put, List.setIfInBounds_toArray, List.set_cons_zero, List.set_cons_succ])
                  refine wpAnyH_done (by kernel_rfl) ?_ _
                  have HBQ := Lib.hid (HBK.out.drew.trans (hbr.mono HBK.out.drew.size))
                  have HKQ := Lib.hid (HKK.out.below ((Below.refl _ _).drew.trans hbr))
                  have HRQ : Hid (RowAt wq g (rowS n t (ownF l c) (ownF (l.take k) c t))) := Lib.hid (HRK.out.below ((Below.refl _ _).drew.trans hbr) HRK.out.lt)
                  clear r0 r1 r2 hHeld
                  obtain ⟨r0, r1, r2⟩ := three_heads (HKP.out _ HBQ.out)
                  obtain ⟨y0, y1, y2⟩ := three_heads (HKX.out _ HKQ.out)
                  have c0 := (hbr.cell (p := ⟨b, off + k * 4, none⟩) lb).trans hc0
                  have u0 := HRQ.out.cell (rowS_cell htn (ownF l c) (ownF (l.take k) c t))
                  have u1 := HRQ.out.frozen t
                  have hgX := HGX.out
                  clear hbr hc0 hc1 hc2 hc3
                  go_wp2_with fail
                  refine wp_region_held_drew (S := fun w' => w'.cell? ⟨P, 2, none⟩ = some (.slice (some ⟨b, off, none⟩) L cA) ∧ w'.cell? ⟨X, 1, none⟩ = some (.slice (some ⟨g, 0, none⟩) n n) ∧ w'.cell? ⟨b, off + k * 4, none⟩ = some (.int .i64 x.u)) (by kernel_rfl) ?_ (fun hHeld => ?_)
                  · exact ⟨r2, y1, c0⟩
                  refine wpAnyH_take (i := 0) (oi := ⟨some 57, _, _, _, _, _⟩) (v := ?_) rfl (by kernel_rfl) (by kernel_rfl) (by kernel_rfl) (fun _ _ _ h => h) (Or.inl ⟨by kernel_rfl, ?_⟩) (by assumption) ?_
                  rotate_left
                  · (intro w hSw; (try dsimp only at hSw); go_simp; try with_reducible rfl)
                  (try simp only [Act.put, List.setIfInBounds_toArray, List.set_cons_zero, List.set_cons_succ])
                  refine wpAnyH_take (i := 1) (oi := ⟨some 58, _, _, _, _, _⟩) (v := ?_) rfl (by kernel_rfl) (by kernel_rfl) (by kernel_rfl) (fun _ _ _ h => h) (Or.inl ⟨by kernel_rfl, ?_⟩) (by assumption) ?_
                  rotate_left
                  · (intro w hSw; (try dsimp only at hSw); go_simp; try with_reducible rfl)
                  (try simp only [Act.put, List.setIfInBounds_toArray, List.set_cons_zero, List.set_cons_succ])
                  refine wpAnyH_take (i := 2) (oi := ⟨some 59, _, _, _, _, _⟩) (v := ?_) rfl (by kernel_rfl) (by kernel_rfl) (by kernel_rfl) (fun _ _ _ h => h) (Or.inl ⟨by kernel_rfl, ?_⟩) (by assumption) ?_
                  rotate_left
                  · (intro w hSw; (try dsimp only at hSw); go_simp; try with_reducible rfl)
                  (try simp only [Act.put, List.setIfInBounds_toArray, List.set_cons_zero, List.set_cons_succ])
                  refine wpAnyH_take (i := 3) (oi := ⟨some 60, _, _, _, _, _⟩) (v := ?_) rfl (by kernel_rfl) (by kernel_rfl) (by kernel_rfl) (fun _ _ _ h => h) (Or.inl ⟨by kernel_rfl, ?_⟩) (by assumption) ?_
                  rotate_left
                  · (intro w hSw; (try dsimp only at hSw); go_simp; try with_reducible rfl)
                  (try simp only [Act.put, List.setIfInBounds_toArray, List.set_cons_zero, List.set_cons_succ])
                  refine wpAnyH_take (i := 4) (oi := ⟨some 61, _, _, _, _, _⟩) (v := ?_) rfl (by kernel_rfl) (by kernel_rfl) (by kernel_rfl) (fun _ _ _ h => h) (Or.inl ⟨by kernel_rfl, ?_⟩) (by assumption) ?_
                  rotate_left
                  · (intro w hSw; (try dsimp only at hSw); go_simp; try with_reducible rfl)
                  (try simp only [Act.put, List.setIfInBounds_toArray, List.set_cons_zero, List.set_cons_succ])
                  refine wpAnyH_take (i := 5) (oi := ⟨some 62, _, _, _, _, _⟩) (v := ?_) rfl (by kernel_rfl) (by kernel_rfl) (by kernel_rfl) (fun _ _ _ h => h) (Or.inl ⟨by kernel_rfl, ?_⟩) (by assumption) ?_
                  rotate_left
                  · (intro w hSw; (try dsimp only at hSw); go_simp; try with_reducible rfl)
                  (try simp only [Act.put, List.setIfInBounds_toArray, List.set_cons_zero, List.set_cons_succ])
                  refine wpAnyH_take (i := 6) (oi := ⟨some 63, _, _, _, _, _⟩) (v := ?_) rfl (by kernel_rfl) (by kernel_rfl) (by kernel_rfl) (fun _ _ _ h => h) (Or.inl ⟨by kernel_rfl, ?_⟩) (by assumption) ?_
                  rotate_left
                  · (intro w hSw; (try dsimp only at hSw); go_simp; try with_reducible rfl)
                  (try simp only [Act.put, List.setIfInBounds_toArray, List.set_cons_zero, List.set_cons_succ])
                  refine wpAnyH_take (i := 7) (oi := ⟨some 64, _, _, _, _, _⟩) (v := ?_) rfl (by kernel_rfl) (by kernel_rfl) (by kernel_rfl) (fun _ _ _ h => h) (Or.inl ⟨by kernel_rfl, ?_⟩) (by assumption) ?_
                  rotate_left
                  · (intro w hSw; (try dsimp only at hSw); go_simp; try with_reducible rfl)
                  (try simp only [Act.put, List.setIfInBounds_toArray, List.set_cons_zero, List.set_cons_succ])
                  refine wpAnyH_take (i := 8) (oi := ⟨some 65, _, _, _, _, _⟩) (v := ?_) rfl (by kernel_rfl) (by kernel_rfl) (by kernel_rfl) (fun _ _ _ h => h) (Or.inl ⟨by kernel_rfl, ?_⟩) (by assumption) ?_
                  rotate_left
                  · (intro w hSw; (try dsimp only at hSw); go_simp; try with_reducible rfl)
                  (try simp only [Act.put, List.setIfInBounds_toArray, List.set_cons_zero, List.set_cons_succ])
                  refine wpAnyH_take (i := 9) (oi := ⟨some 66, _, _, _, _, _⟩) (v := ?_) rfl (by kernel_rfl) (by kernel_rfl) (by kernel_rfl) (fun _ _ _ h => h) (Or.inl ⟨by kernel_rfl, ?_⟩) (by assumption) ?_
                  rotate_left
                  · (intro w hSw; (try dsimp only at hSw); go_simp; try with_reducible rfl)
                  (try simp only [Act.put, List.setIfInBounds_toArray, List.set_cons_zero, List.set_cons_succ])
                  refine wpAnyH_ready (rs := [10]) (by kernel_rfl) (by simp) ?_
                  refine AllReadyH.cons (o := ⟨none, _, _, _, _, _⟩) rfl (fun K hK => ?_) AllReadyH.nil
                  rw [if_pos (by kernel_rfl)]
                  go_simp
                  refine hK.out _ _ ?_ (fun hHeld => ?_)
                  · exact ⟨(cell_set_ne (p := ⟨g, t, none⟩) (q := ⟨P, 2, none⟩) hPg).trans r2, (cell_set_ne (p := ⟨g, t, none⟩) (q := ⟨X, 1, none⟩) (Ne.symm hgX)).trans y1, (cell_set_ne (p := ⟨g, t, none⟩) (q := ⟨b, off + k * 4, none⟩) hbg).trans c0⟩
                  clear hK K
                  (try simp only [Act.put, List.setIfInBounds_toArray, List.set_cons_zero, List.set_cons_succ])
                  refine wpAnyH_done (by kernel_rfl) ?_ _
                  go_wp2_with fail
                  go_roundg (L - (k + 1))
                  case measure => have := HGK.out; omega
                  case rel =>
                    refine ⟨k + 1, by omega, rfl, by go_num, HKQ.out.below ((Below.refl _ _).drew) |>.set_ _, HBQ.out.drew.setCell (p := ⟨g, t, none⟩) HGW.out _, ?_⟩
                    rw [HNX.out, ← rowS_set n t (ownF l c) (ownF (l.take k) c t)]
                    exact RowAt.set_ HRQ.out t x.u
                · have hz1 : ¬ (0 : Int) < (z : Int) := by omega
                  have hz2 : decide ((0 : Int) < (z : Int)) = false := decide_eq_false hz1
                  have hz3 : decide (0 < z) = false := decide_eq_false hzp
                  rw [if_neg hzp] at HNX
                  go_wp2_with fail
                  refine wp_region_held_drew (S := fun w' => w'.cell? ⟨P, 0, none⟩ = some (.int .i64 (n : Int)) ∧ w'.cell? ⟨P, 1, none⟩ = some (.int .u32 m) ∧ w'.cell? ⟨P, 2, none⟩ = some (.slice (some ⟨b, off, none⟩) L cA) ∧ w'.cell? ⟨bc, oc + i, none⟩ = some (.int .i64 c) ∧ w'.cell? ⟨b, off + k * 4, none⟩ = some (.int .i64 x.u) ∧ w'.cell? ⟨b, off + k * 4 + 1, none⟩ = some (.int .i64 x.s) ∧ w'.cell? ⟨b, off + k * 4 + 2, none⟩ = some (.int .i64 x.c) ∧ w'.cell? ⟨b, off + k * 4 + 3, none⟩ = some (.slice B x.ps.length d)) (by kernel_rfl) ?_ (fun hHeld => ?_)
                  · exact ⟨r0, r1, r2, hcc, hc0, hc1, hc2, hc3⟩
                  refine wpAnyH_take (i := 0) (oi := ⟨some 45, _, _, _, _, _⟩) (v := ?_) rfl (by kernel_rfl) (by kernel_rfl) (by kernel_rfl) (fun _ _ _ h => h) (Or.inl ⟨by kernel_rfl, ?_⟩) (by assumption) ?_
                  rotate_left
                  · (intro w hSw; (try dsimp only at hSw); go_simp; try with_reducible rfl)
                  (try simp only [Act.put, List.setIfInBounds_toArray, List.set_cons_zero, List.set_cons_succ])
                  refine wpAnyH_take (i := 1) (oi := ⟨some 46, _, _, _, _, _⟩) (v := ?_) rfl (by kernel_rfl) (by kernel_rfl) (by kernel_rfl) (fun _ _ _ h => h) (Or.inl ⟨by kernel_rfl, ?_⟩) (by assumption) ?_
                  rotate_left
                  · (intro w hSw; (try dsimp only at hSw); go_simp; try with_reducible rfl)
                  (try simp only [Act.put, List.setIfInBounds_toArray, List.set_cons_zero, List.set_cons_succ])
                  refine wpAnyH_take (i := 2) (oi := ⟨some 47, _, _, _, _, _⟩) (v := ?_) rfl (by kernel_rfl) (by kernel_rfl) (by kernel_rfl) (fun _ _ _ h => h) (Or.inl ⟨by kernel_rfl, ?_⟩) (by assumption) ?_
                  rotate_left
                  · (intro w hSw; (try dsimp only at hSw); go_simp; try with_reducible rfl)
                  (try simp only [Act.put, List.setIfInBounds_toArray, List.set_cons_zero, List.set_cons_succ])
                  refine wpAnyH_take (i := 3) (oi := ⟨some 48, _, _, _, _, _⟩) (v := ?_) rfl (by kernel_rfl) (by kernel_rfl) (by kernel_rfl) (fun _ _ _ h => h) (Or.inl ⟨by kernel_rfl, ?_⟩) (by assumption) ?_
                  rotate_left
                  · (intro w hSw; (try dsimp only at hSw); go_simp; try with_reducible rfl)
                  (try simp only [Act.put, List.setIfInBounds_toArray, List.set_cons_zero, List.set_cons_succ])
                  refine wpAnyH_take (i := 4) (oi := ⟨some 49, _, _, _, _, _⟩) (v := ?_) rfl (by kernel_rfl) (by kernel_rfl) (by kernel_rfl) (fun _ _ _ h => h) (Or.inl ⟨by kernel_rfl, ?_⟩) (by assumption) ?_
                  rotate_left
                  · (intro w hSw; (try dsimp only at hSw); go_simp; try with_reducible rfl)
                  (try simp only [Act.put, List.setIfInBounds_toArray, List.set_cons_zero, List.set_cons_succ])
                  refine wpAnyH_take (i := 5) (oi := ⟨some 50, _, _, _, _, _⟩) (v := ?_) rfl (by kernel_rfl) (by kernel_rfl) (by kernel_rfl) (fun _ _ _ h => h) (Or.inl ⟨by kernel_rfl, ?_⟩) (by assumption) ?_
                  rotate_left
                  · (intro w hSw; (try dsimp only at hSw); go_simp; try with_reducible rfl)
                  (try simp only [Act.put, List.setIfInBounds_toArray, List.set_cons_zero, List.set_cons_succ])
                  refine wpAnyH_take (i := 6) (oi := ⟨some 51, _, _, _, _, _⟩) (v := ?_) rfl (by kernel_rfl) (by kernel_rfl) (by kernel_rfl) (fun _ _ _ h => h) (Or.inl ⟨by kernel_rfl, ?_⟩) (by assumption) ?_
                  rotate_left
                  · (intro w hSw; (try dsimp only at hSw); go_simp; try with_reducible rfl)
                  (try simp only [Act.put, List.setIfInBounds_toArray, List.set_cons_zero, List.set_cons_succ])
                  refine wpAnyH_take (i := 7) (oi := ⟨some 52, _, _, _, _, _⟩) (v := ?_) rfl (by kernel_rfl) (by kernel_rfl) (by kernel_rfl) (fun _ _ _ h => h) (Or.inl ⟨by kernel_rfl, ?_⟩) (by assumption) ?_
                  rotate_left
                  · (intro w hSw; (try dsimp only at hSw); go_simp; try with_reducible rfl)
                  (try simp only [Act.put, List.setIfInBounds_toArray, List.set_cons_zero, List.set_cons_succ])
                  refine wpAnyH_take (i := 8) (oi := ⟨some 53, _, _, _, _, _⟩) (v := ?_) rfl (by kernel_rfl) (by kernel_rfl) (by kernel_rfl) (fun _ _ _ h => h) (Or.inl ⟨by kernel_rfl, ?_⟩) (by assumption) ?_
                  rotate_left
                  · (intro w hSw; (try dsimp only at hSw); go_simp; try with_reducible rfl)
                  (try simp only [Act.put, List.setIfInBounds_toArray, List.set_cons_zero, List.set_cons_succ])
                  refine wpAnyH_take (i := 9) (oi := ⟨some 54, _, _, _, _, _⟩) (v := ?_) rfl (by kernel_rfl) (by kernel_rfl) (by kernel_rfl) (fun _ _ _ h => h) (Or.inl ⟨by kernel_rfl, ?_⟩) (by assumption) ?_
                  rotate_left
                  · (intro w hSw; (try dsimp only at hSw); go_simp; try with_reducible rfl)
                  (try simp only [Act.put, List.setIfInBounds_toArray, List.set_cons_zero, List.set_cons_succ])
                  refine wpAnyH_ready (rs := [10]) (by kernel_rfl) (by simp) ?_
                  refine AllReadyH.cons (o := ⟨some 55, _, _, _, _, _⟩) rfl (fun K hK => ?_) AllReadyH.nil
                  rw [if_pos (by kernel_rfl)]
                  go_simp
                  go_at_call 31; refine (HAT.out _ (HPW.out.keep ((Below.refl _ _).drew))).mono ?_; rintro e wq ⟨rfl, hbr⟩
                  refine hK.out _ _ ?_ (fun hHeld => ?_)
                  · exact ⟨(hbr.cell (p := ⟨P, 0, none⟩) lP).trans r0, (hbr.cell (p := ⟨P, 1, none⟩) lP).trans r1, (hbr.cell (p := ⟨P, 2, none⟩) lP).trans r2, (hbr.cell (p := ⟨bc, oc + i, none⟩) lbc2).trans hcc, (hbr.cell (p := ⟨b, off + k * 4, none⟩) lb).trans hc0, (hbr.cell (p := ⟨b, off + k * 4 + 1, none⟩) lb).trans hc1, (hbr.cell (p := ⟨b, off + k * 4 + 2, none⟩) lb).trans hc2, (hbr.cell (p := ⟨b, off + k * 4 + 3, none⟩) lb).trans hc3⟩
                  clear hK K
                  (try simp only [Act.put, List.setIfInBounds_toArray, List.set_cons_zero, List.set_cons_succ])
                  refine wpAnyH_take (i := 11) (oi := ⟨some 56, _, _, _, _, _⟩) (v := ?_) rfl (by kernel_rfl) (by kernel_rfl) (by kernel_rfl) (fun _ _ _ h => h) (Or.inl ⟨by kernel_rfl, ?_⟩) (by assumption) ?_
                  rotate_left
                  · (intro w hSw; (try dsimp only at hSw); go_simp; try with_reducible rfl)
                  (try simp only [Act.put, List.setIfInBounds_toArray, List.set_cons_zero, List.set_cons_succ])
                  refine wpAnyH_done (by kernel_rfl) ?_ _
                  have HBQ := Lib.hid (HBK.out.drew.trans (hbr.mono HBK.out.drew.size))
                  have HKQ := Lib.hid (HKK.out.below ((Below.refl _ _).drew.trans hbr))
                  have HRQ : Hid (RowAt wq g (rowS n t (ownF l c) (ownF (l.take k) c t))) := Lib.hid (HRK.out.below ((Below.refl _ _).drew.trans hbr) HRK.out.lt)
                  clear r0 r1 r2 hHeld hbr
                  go_wp2_with fail
                  go_roundg (L - (k + 1))
                  case measure => have := HGK.out; omega
                  case rel => exact ⟨k + 1, by omega, rfl, by go_num, HKQ.out, HBQ.out, by rw [HNX.out]; exact HRQ.out⟩
              · have hkz : ¬ (k : Int) < (L : Int) := by omega
                have HT : Hid (l.take k = l) := Lib.hid (List.take_of_length_le (by rw [HLN.out]; omega))
                rw [HT.out, rowS_next] at HRK
                go_wp2_with fail
                go_roundg (n - (t + 1))
                case measure => have := HGT.out; omega
                case rel => exact ⟨t + 1, by omega, rfl, by go_num, HKK.out, HBK.out, HRK.out⟩
          · have htz : ¬ (t : Int) < (n : Int) := by omega
            obtain rfl : t = n := by omega
            rw [rowS_end] at HRT
            obtain ⟨y0, y1, y2⟩ := three_heads (HKX.out _ HKT.out)
            have HR5 := Lib.hid (HRW.out.keep HBT.out)
            have HSP := Lib.hid (HKS.out _ HKT.out)
            have hle : ls.length ≤ 100 := by rw [← tbsR_length, HLS.out, List.length_map, List.length_take]; omega
            have HR : Hid (TbIn (fun b => True ∧ u3.ownBlock ≠ some b) wr ((some ⟨g, 0, none⟩, t), (A2, c2), tabOf t l c)) := Lib.hid (by
              have hlt : ∀ b, u3.ownBlock = some b → b < wo.heap.size := fun b hb => own_lt HRW.out.own hb
              have e1 : (rowN t (ownF l c)).length = t := rowN_length _ _
              refine ⟨?_, ?_, ?_, ?_⟩
              · exact HRT.out.ints (by rw [rowN_length]; omega) t
              · show SpansAt wr (.slice A2 (wholesT l c).length c2) (wholesT l c)
                rw [HL2.out]
                exact HSP.out
              · intro _ b hb
                cases hb
                exact ⟨trivial, fun e => by have := hlt g e; have := HGW.out; omega⟩
              · intro h0 b hb
                have h1 : 0 < L2 := by rw [← HL2.out]; exact h0
                have hb' : (Value.slice A2 L2 c2).ownBlock = some b := by rw [← HL2.out]; exact hb
                exact ⟨trivial, fun e => by have := hlt b e; have := HSW2.out h1 b hb'; omega⟩)
            have HCE : Hid (tbCells ((some ⟨g, 0, none⟩, t), (A2, c2), tabOf t l c) = [.int .i64 c, .slice (some ⟨g, 0, none⟩) t t, .slice A2 L2 c2]) := Lib.hid (by
              have e1 : (tabOf t l c).ts.length = t := rowN_length _ _
              have e2 : (tabOf t l c).ws.length = L2 := HL2.out
              unfold tbCells tV1 tV2
              simp only [e1, e2]
              rfl)
            have hsz := HBT.out.size
            go_wp2_with (at_builtin; refine wpList_append_own_at _ rfl _ _ 32 rfl w1.heap.size 39 i0 (.agg #[.int .i64 0, .slice none 0 0, .slice none 0 0]) 3 56 Try.underlying32 hi hz0 hz1 hz2 rfl (by decide) _ _ _ rfl (HR5.out.own.alloc _) ⟨wr.heap.size, 0, none⟩ 1 1 [.int .i64 c, .slice (some ⟨g, 0, none⟩) t t, .slice A2 L2 c2] rfl rfl ?c1 ?c2 ?c3 ?c4 ?c5 ?_)
            case c2 => exact ⟨rfl, rfl, rfl⟩
            case c3 => unfold maxLen; omega
            case c4 => omega
            case c5 => have := HBW.out.size; omega
            intro v6 w6 hown6 hgrow _ hat
            have hba := (Below.refl wr.heap.size wr).alloc (Nat.le_refl _) (.cells #[.int .i64 c, .slice (some ⟨g, 0, none⟩) t t, .slice A2 L2 c2] 39)
            rw [← HCE.out] at hown6
            have hk1 := HBW.out.trans (HBT.out.mono HBW.out.size)
            have HB6 := Lib.hid ((hk1.alloc hk1.size _).trans (below_grown5 hgrow (by simp; have := hk1.size; omega) (own_base5 HR5.out.own)))
            have HR6 := Lib.hid ((HR5.out.keep hba).snoc (HR.out.keep hba) hown6 hgrow (hat.imp id fun e => e.trans (by simp)))
            have HI6 : Hid (IntsAt w6 (.slice (some ⟨bc, oc, none⟩) nc cc) (ticksI m 16)) := Lib.hid (by
              have h1 := HBT.out.size
              refine ints_block ((HIW.out.keep HBT.out).keep hba) hgrow.size fun hn b hb hl => ?_
              cases hb
              exact hgrow.block bc hl fun e => HNE.out (by omega) bc rfl e.symm)
            have HN6 : Hid (InB (fun b => v6.ownBlock ≠ some b) nc (.slice (some ⟨bc, oc, none⟩) nc cc)) := Lib.hid (fun h0 b hb e => by
              cases hb
              rcases hat with hat | hat
              · exact HNE.out h0 bc rfl (hat ▸ e)
              · rw [hat] at e
                have := Option.some.inj e
                simp at this
                omega)
            have HT6 : Hid (tbsR (ls ++ [((some ⟨g, 0, none⟩, t), (A2, c2), tabOf t l c)]) = ((ticksI m 16).take (i + 1)).map (tabOf t l)) := Lib.hid (by
              rw [tbsR_snoc, HLS.out, List.take_add_one, HC.out, Option.toList_some, List.map_append]
              rfl)
            have hsz6 := HB6.out.size
            have hs6 := hgrow.size
            have HS6 : Hid (w2.heap.size ≤ w6.heap.size) := Lib.hid (by
              have h1 := HSW.out
              simp at hs6
              omega)
            clear hown6 hgrow hat hba hk1 y0 y1 y2 r0 r1 r2 hsz hsz6 hs6
            go_wp2_with fail
            go_roundg (nc - (i + 1))
            case measure => have := HGI.out; omega
            case rel => exact ⟨i + 1, _, by omega, rfl, by go_num, HS6.out, HB6.out, HI6.out, HN6.out, HT6.out, HR6.out⟩
    · have hiz : ¬ (i : Int) < (nc : Int) := by omega
      have HE : Hid (tbsR ls = tabsOf n m l) := Lib.hid (by rw [HLS.out, List.take_of_length_le (by rw [HNC.out]; omega)]; rfl)
      have HF := Lib.hid (tabs_of_own HRW.out)
      rw [HE.out] at HF
      go_wp2_with fail
      go_ret
      exact ⟨_, rfl, HF.out, HB.out⟩
end Go.Proofs.Ytpjmdnhoiobedaa
