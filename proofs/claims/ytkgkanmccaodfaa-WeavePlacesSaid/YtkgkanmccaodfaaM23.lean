/-
  A unit woven tick by tick, as the program's loom does it.
  Conditions: the slice reads as the cores; the gaps are ticks of the frame.
-/
import Derived.Test.YtkgkanmccaodfaaM22

/-
  A unit woven tick by tick, as the program's loom does it.
  Conditions: the slice reads as the cores; the gaps are ticks of the frame.
-/
set_option linter.unusedVariables false
set_option linter.unusedSimpArgs false
namespace Go.Proofs.Ytkgkanmccaodfaa
open Go.RowKit

theorem wv_stop {g r : Nat → Nat} {S T : Nat} (h : (wvT g r S T).lack = 0) : ∀ d : Nat, wvT g r S (T + d) = wvT g r S T
  | 0 => rfl
  | d + 1 => by
    have ih := wv_stop h d
    show wvS g (wvT g r S (T + d)) (T + d) = _
    rw [ih]
    exact wvS_zero h
structure WvM (w0 W : World) (X K : Nat) (F : Int) (v : Value) (g : Nat → Nat) (st : WSt) : Prop where
  apart : Apart (fun b => b = X ∨ b = K) w0 W
  lm : LoomIn W X F v g st.r
  giv : ArrU W K st.gv
theorem WvM.keep {w0 W W' : World} {X K : Nat} {F : Int} {v : Value} {g : Nat → Nat} {st : WSt} (h : WvM w0 W X K F v g st) (hb : Below W.heap.size W W') : WvM w0 W' X K F v g st :=
  ⟨h.apart.trans (Apart.of_below (F := fun b => b = X ∨ b = K) hb) fun _ _ e => e, keep_block h.lm hb, keep_block h.giv hb⟩
theorem WvM.step {w0 W : World} {X K : Nat} {F : Int} {v : Value} {g : Nat → Nat} {st st' : WSt} (h : WvM w0 W X K F v g st) (hne : X ≠ K) {c R rd : Nat} (hc : c < 16)
    (hr : ∀ i, i < 16 → st'.r i = if i = c then rd else st.r i) (hg : ∀ i, i < 16 → st'.gv i = if i = c then R else st.gv i) :
    WvM w0 ((W.setCell ⟨K, c, none⟩ (.int .u64 (R : Int))).setCell ⟨X, 18 + c, none⟩ (.int .i64 (rd : Int))) X K F v g st' := by
  have h1 : LoomIn (W.setCell ⟨K, c, none⟩ (.int .u64 (R : Int))) X F v g st.r := (heap_other W _ (by exact hne)).trans h.lm
  have h2 := h1.setRoom (c := c) (x := rd) hc
  have h3 := h.giv.set c R
  refine ⟨(h.apart.set (.inl (.inr rfl)) _).set (.inl (.inl rfl)) _, ?_, ?_⟩
  · have e : loomC F v g st'.r = loomC F v g fun i => if i = c then rd else st.r i := loomC_congr (fun _ _ => rfl) hr
    show _ = some (Obj.cells (loomC F v g st'.r) _ _)
    rw [e]
    exact h2
  · have e : arrU st'.gv = arrU fun i => if i = c then R else st.gv i := arrU_congr hg
    show _ = some (Obj.cells (arrU st'.gv) _ _)
    rw [e]
    exact (heap_other _ _ (by exact fun e => hne e.symm)).trans h3

set_option maxRecDepth 100000 in
set_option maxHeartbeats 8000000 in
theorem weave_any (F : Nat) (A : Option Addr) (nc cA : Nat) (g r : Nat → Nat) (cs : List Int) (hO : LoomOk F nc g r cs) (S : Nat) (w : World) (hS : S ≤ 64) (hv : IntsAt w (.slice A nc cA) cs) :
    Calls Try.prog 37 #[loomA F (.slice A nc cA) g r, .int .i64 (S : Int)] w (RetPc21 (mkP (wvT g r S F).gv 16) w) := by
  have mixed : Try.prog.follows .mixedOrders = true := by kernel_rfl
  obtain ⟨L, hL⟩ : ∃ L, loomC F (.slice A nc cA) g r = L := ⟨_, rfl⟩
  obtain ⟨Z, hZ⟩ : ∃ Z, arrU (fun _ => 0) = Z := ⟨_, rfl⟩
  have HZU : Hid ((Try.prog.info? 54).bind (·.zero) = some (.agg Z)) := Lib.hid (by rw [← hZ]; exact Try.zeroAU)
  obtain ⟨w1, X, hw1, hX, hXl, hb1, hbox⟩ := box_any w L 57
  obtain ⟨w2, K, hw2, hK, hKl, hb2, hkox⟩ := box_any w1 Z 54
  have HB2 : Hid (Below w.heap.size w w2) := Lib.hid (hb1.trans (hb2.mono hb1.size))
  have HXK : Hid (X < K ∧ w.heap.size ≤ X ∧ w.heap.size ≤ w2.heap.size) := Lib.hid ⟨by omega, by omega, by have := hb1.size; have := hb2.size; omega⟩
  have HM0 : Hid (WvM w2 w2 X K F (.slice A nc cA) g (wvT g r S 0)) := Lib.hid ⟨Apart.refl _ _, by
    show w2.heap[X]? = some (.cells (loomC F (.slice A nc cA) g r) _ (0, 0))
    rw [hL]
    exact keep_block hbox hb2, by
    show w2.heap[K]? = some (.cells (arrU fun _ => 0) _ (0, 0))
    rw [hZ]
    exact hkox⟩
  have HV : Hid (∀ W, Apart (fun b => b = X ∨ b = K) w2 W → IntsAt W (.slice A nc cA) cs) := Lib.hid (fun W ha => hv.keep (HB2.out.trans (ha.below HXK.out.2.2 fun b hb e => by have := HXK.out; omega)))
  have HOO := Lib.hid hO
  have HSS := Lib.hid hS
  have hF64 := hO.f64
  unfold loomA
  rw [hL]
  clear hO hv hL hZ hb1 hb2 hbox hkox
  go_enter Try.func37, Try.ntmps37
  go_wp2_with (refine wpList_alloc_is rfl _ rfl Z HZU.out ?_; rw [hw2, hK])
  clear hw1 hw2 hX hK
  go_loopg [1, 6] F (fun gg s1 s6 wr => ∃ T : Nat, T ≤ F ∧ gg = F - T ∧ s1 = .int .i64 ((wvT g r S T).lack : Nat) ∧ s6 = .int .i64 T ∧ Hid (WvM w2 wr X K F (.slice A nc cA) g (wvT g r S T)))
  case atStart => exact ⟨0, Nat.zero_le _, rfl, rfl, rfl, HM0⟩
  case round =>
    obtain ⟨T, hT, hgg, rfl, rfl, HMW⟩ := hrel
    have HG := Lib.hid hgg
    clear hgg
    have r0 := HMW.out.lm.frame
    by_cases hgo : T < F ∧ 0 < (wvT g r S T).lack
    · obtain ⟨hlt, hl0⟩ := hgo
      have hltz : (T : Int) < (F : Int) := by omega
      have hT64 : T < 64 := by omega
      have hT0 : (0 : Int) ≤ (T : Int) := by omega
      have HNX : Hid (wvT g r S (T + 1) = wvS g (wvT g r S T) T) := Lib.hid rfl
      have HRL : Hid (∀ c, c < 16 → (wvT g r S T).r c ≤ r c) := Lib.hid (fun c _ => wv_room g r S T c)
      have HGL : Hid (∀ c, (wvT g r S T).gv c < 18446744073709551616) := Lib.hid (fun c => wv_lt g r S T c (by omega))
      have hlk : (wvT g r S T).lack ≤ 64 := Nat.le_trans (wv_lack g r S T) HSS.out
      generalize wvT g r S T = st at *
      obtain ⟨lk, hlke⟩ : ∃ lk, st.lack = lk := ⟨_, rfl⟩
      have HLK := Lib.hid hlke
      rw [hlke] at hl0 hlk ⊢
      obtain ⟨l1, hl1⟩ : ∃ l1, lk - 1 = l1 := ⟨_, rfl⟩
      have HL1 := Lib.hid hl1
      have hlz : (0 : Int) < (lk : Int) := by omega
      have hld : decide (0 < lk) = true := decide_eq_true hl0
      have hws : IntKind.i64.wrap ((lk : Int) - 1) = (l1 : Int) := by rw [IntKind.wrap_i64, show (lk : Int) - 1 = (l1 : Int) by omega]; omega
      have HLO := Lib.hid (lowest_any F A nc cA g st.r cs (HOO.out.rooms HRL.out) T lk wr hT64 hl0 hlk (HV.out wr HMW.out.apart))
      rw [hl1] at HLO
      unfold loomA at HLO
      obtain ⟨Lr, hLr⟩ : ∃ Lr, loomC F (.slice A nc cA) g st.r = Lr := ⟨_, rfl⟩
      have HLR : Hid (wr.heap[X]? = some (.cells Lr 57 (0, 0))) := Lib.hid (by rw [← hLr]; exact HMW.out.lm)
      have HSL : Hid ((Try.prog.info? 57).map (·.size) = some Lr.size) := Lib.hid (by rw [← hLr]; exact Try.sizeLm _ _ _ _)
      rw [hLr] at HLO
      obtain ⟨o, ho⟩ : ∃ o, weaveC g st.r T lk = o := ⟨_, rfl⟩
      have HWO := Lib.hid ho
      rw [ho] at HLO
      clear hlke hl1 hLr ho
      cases o with
      | none =>
        have HLO2 : Hid (Calls Try.prog 59 #[.agg Lr, .int .i64 (T : Int), .int .i64 (l1 : Int)] wr (RetB (.tuple #[.int .i64 0, .bool false]) wr)) := Lib.hid HLO.out
        go_wp2_with (refine wpList_load_row rfl _ _ rfl X rfl 57 Lr (0, 0) _ HLR.out Try.underlying57 rfl HSL.out ?_)
        clear r0
        refine HLO2.out.mono ?_
        rintro e w3 ⟨rfl, hb3⟩
        have HM3 := Lib.hid (HMW.out.keep hb3)
        clear hb3 HLO HLO2
        have HST : Hid (wvT g r S (T + 1) = st) := Lib.hid (by
          rw [HNX.out]
          unfold wvS
          rw [HLK.out, if_neg (by omega), HWO.out])
        go_wp2_with fail
        go_roundg (F - (T + 1))
        case measure => have := HG.out; omega
        case rel => exact ⟨T + 1, by omega, rfl, by rw [HST.out, HLK.out], by go_num, by rw [HST.out]; exact HM3⟩
      | some c =>
        have HLO2 : Hid (Calls Try.prog 59 #[.agg Lr, .int .i64 (T : Int), .int .i64 (l1 : Int)] wr (RetB (.tuple #[.int .i64 (c : Int), .bool true]) wr)) := Lib.hid HLO.out
        go_wp2_with (refine wpList_load_row rfl _ _ rfl X rfl 57 Lr (0, 0) _ HLR.out Try.underlying57 rfl HSL.out ?_)
        clear r0
        refine HLO2.out.mono ?_
        rintro e w3 ⟨rfl, hb3⟩
        have HM3 := Lib.hid (HMW.out.keep hb3)
        clear hb3 HLO HLO2
        obtain ⟨hc, hrp, _, _⟩ := weaveC_some HWO.out
        have hc0 : (0 : Int) ≤ (c : Int) := by omega
        have hc16 : (c : Int) < 16 := by omega
        have HST : Hid (wvT g r S (T + 1) = ⟨lessR st.r c, fun d => if d = c then withN (st.gv d) T else st.gv d, l1⟩) := Lib.hid (by
          rw [HNX.out]
          unfold wvS
          rw [HLK.out, if_neg (by omega), HWO.out, ← HL1.out])
        have HK3 : Hid (w3.heap[K]? = some (.cells (arrU st.gv) 54 (0, 0))) := Lib.hid HM3.out.giv
        have lK : K < w3.heap.size := heap_lt HM3.out.giv
        have m1 := HM3.out.giv.cell hc
        obtain ⟨O, hO⟩ : ∃ O, st.gv c = O := ⟨_, rfl⟩
        rw [hO] at m1
        have HO := Lib.hid hO
        obtain ⟨t1, ht1⟩ : ∃ t1, withN 0 T = t1 := ⟨_, rfl⟩
        have HOF : Hid (ofI [(T : Int)] = t1) := Lib.hid (by rw [of_one hT64, ht1])
        obtain ⟨R, hR⟩ : ∃ R, O ||| t1 = R := ⟨_, rfl⟩
        have hor : bits BinOp.or IntKind.u64 (O : Int) (t1 : Int) = (R : Int) := by rw [bits_or_u64_nat O t1 (by rw [← hO]; exact HGL.out c) (by rw [← ht1]; exact withN_lt (by decide) hT64), hR]
        have HRE : Hid (withN (st.gv c) T = R) := Lib.hid (by rw [← hR, ← ht1, or_tick, hO])
        obtain ⟨rc, hrc⟩ : ∃ rc, st.r c = rc := ⟨_, rfl⟩
        have HRC := Lib.hid hrc
        have hrc64 : rc ≤ 64 := by rw [← hrc]; exact Nat.le_trans (HRL.out c hc) (HOO.out.rle c hc)
        rw [hrc] at hrp
        obtain ⟨rd, hrd⟩ : ∃ rd, rc - 1 = rd := ⟨_, rfl⟩
        have HRD := Lib.hid hrd
        have hwr : IntKind.i64.wrap ((rc : Int) - 1) = (rd : Int) := by rw [IntKind.wrap_i64, show (rc : Int) - 1 = (rd : Int) by omega]; omega
        have HXK3 : Hid (X ≠ K) := Lib.hid (by have := HXK.out; omega)
        clear hO ht1 hR hrc hrd
        go_wp2_with fail
        refine wp_region_N (S1 := fun w' => True) (S2 := fun w' => w'.cell? ⟨K, c, none⟩ = some (.int .u64 (O : Int))) (N := fun i => i != 8) (by kernel_rfl) ?_
        change wpAnyN _ _ _ _ _ _ _ 9 (Array.replicate 9 false) _ _
        refine wpAnyN_take false (i := 0) (oi := ⟨some 29, _, _, _, _, _⟩) (v := ?_) rfl (by kernel_rfl) (by kernel_rfl) (by kernel_rfl) (fun _ _ _ h => h) (Or.inl ⟨by kernel_rfl, ?_⟩) ⟨trivial, fun h => (by cases h)⟩ ?_
        rotate_left
        · (intro w hSw; obtain ⟨hSa, hSb⟩ := hSw; clear hSb; (try dsimp only at hSa); go_simp; try with_reducible rfl)
        (try simp only [Act.put, List.setIfInBounds_toArray, List.set_cons_zero, List.set_cons_succ])
        refine wpAnyN_take false (i := 1) (oi := ⟨some 30, _, _, _, _, _⟩) (v := ?_) rfl (by kernel_rfl) (by kernel_rfl) (by kernel_rfl) (fun _ _ _ h => h) (Or.inl ⟨by kernel_rfl, ?_⟩) ⟨trivial, fun h => (by cases h)⟩ ?_
        rotate_left
        · (intro w hSw; obtain ⟨hSa, hSb⟩ := hSw; clear hSb; (try dsimp only at hSa); go_simp; try with_reducible rfl)
        (try simp only [Act.put, List.setIfInBounds_toArray, List.set_cons_zero, List.set_cons_succ])
        refine wpAnyN_take true (i := 2) (oi := ⟨some 31, _, _, _, _, _⟩) (v := ?_) rfl (by kernel_rfl) (by kernel_rfl) (by kernel_rfl) (fun _ _ _ h => h) (Or.inl ⟨by kernel_rfl, ?_⟩) ⟨trivial, fun _ => m1⟩ ?_
        rotate_left
        · (intro w hSw; obtain ⟨hSa, hSb⟩ := hSw; have hSc := hSb rfl; clear hSb; (try dsimp only at hSa hSc); go_simp; try with_reducible rfl)
        (try simp only [Act.put, List.setIfInBounds_toArray, List.set_cons_zero, List.set_cons_succ])
        refine wpAnyN_take false (i := 3) (oi := ⟨some 32, _, _, _, _, _⟩) (v := ?_) rfl (by kernel_rfl) (by kernel_rfl) (by kernel_rfl) (fun _ _ _ h => h) (Or.inl ⟨by kernel_rfl, ?_⟩) ⟨trivial, fun h => (by cases h)⟩ ?_
        rotate_left
        · (intro w hSw; obtain ⟨hSa, hSb⟩ := hSw; clear hSb; (try dsimp only at hSa); go_simp; try with_reducible rfl)
        (try simp only [Act.put, List.setIfInBounds_toArray, List.set_cons_zero, List.set_cons_succ])
        refine wpAnyN_step (i := 4) (by kernel_rfl) rfl (by kernel_rfl) ?_
        intro K' hK
        (try simp only [Act.put, List.setIfInBounds_toArray, List.set_cons_zero, List.set_cons_succ])
        obtain ⟨wq1, J, hwJ, hJ, hJl, hb1, hjb⟩ := box_any w3.drew #[.int .i64 (T : Int)] 3
        go_simp
        refine hK.out _ _ (trivial) (fun _ _ => (hb1.cell (p := ⟨K, c, none⟩) lK).trans m1) ?_
        clear hK K'
        (try simp only [Act.put, List.setIfInBounds_toArray, List.set_cons_zero, List.set_cons_succ])
        clear hwJ
        refine wpAnyN_step (i := 5) (by kernel_rfl) rfl (by kernel_rfl) ?_
        intro K' hK
        (try simp only [Act.put, List.setIfInBounds_toArray, List.set_cons_zero, List.set_cons_succ])
        go_simp
        have hjt : IntsAt wq1 (.slice (some ⟨J, 0, none⟩) 1 1) [(T : Int)] := ⟨_, _, rfl, (by show 1 ≤ 9223372036854775807; omega), fun _ => ⟨J, 0, rfl, hJl, fun j x hx => by
          rcases j with _ | j
          · have e : x = (T : Int) := by simpa using hx.symm
            subst e
            rw [cell_of_row wq1 J (0 + 0) _ _ _ hjb]; rfl
          · simp at hx⟩⟩
        go_at_call 60; refine (of_any [(T : Int)] _ wq1 hjt).mono ?_; rintro e wq2 ⟨rfl, rfl⟩
        rw [HOF.out]
        refine hK.out _ _ (trivial) (fun _ _ => (hb1.cell (p := ⟨K, c, none⟩) lK).trans m1) ?_
        clear hK K'
        (try simp only [Act.put, List.setIfInBounds_toArray, List.set_cons_zero, List.set_cons_succ])
        have z0 := (hb1.cell (p := ⟨K, c, none⟩) lK).trans m1
        have z1 : wq1.frozen? ⟨K, c, none⟩ = false := block_free (keep_block HK3.out ((Below.refl _ _).drew.trans hb1))
        refine wpAnyN_take false (i := 6) (oi := ⟨some 35, _, _, _, _, _⟩) (v := ?_) rfl (by kernel_rfl) (by kernel_rfl) (by kernel_rfl) (fun _ _ _ h => h) (Or.inl ⟨by kernel_rfl, ?_⟩) ⟨trivial, fun h => (by cases h)⟩ ?_
        rotate_left
        · (intro w hSw; obtain ⟨hSa, hSb⟩ := hSw; clear hSb; (try dsimp only at hSa); go_simp; try with_reducible rfl)
        (try simp only [Act.put, List.setIfInBounds_toArray, List.set_cons_zero, List.set_cons_succ])
        refine wpAnyN_take false (i := 7) (oi := ⟨some 36, _, _, _, _, _⟩) (v := ?_) rfl (by kernel_rfl) (by kernel_rfl) (by kernel_rfl) (fun _ _ _ h => h) (Or.inl ⟨by kernel_rfl, ?_⟩) ⟨trivial, fun h => (by cases h)⟩ ?_
        rotate_left
        · (intro w hSw; obtain ⟨hSa, hSb⟩ := hSw; clear hSb; (try dsimp only at hSa); go_simp; try with_reducible rfl)
        (try simp only [Act.put, List.setIfInBounds_toArray, List.set_cons_zero, List.set_cons_succ])
        refine wpAnyN_step (i := 8) (by kernel_rfl) rfl (by kernel_rfl) ?_
        intro K' hK
        (try simp only [Act.put, List.setIfInBounds_toArray, List.set_cons_zero, List.set_cons_succ])
        go_simp
        refine hK.out _ _ (trivial) (fun h => by cases h) ?_
        clear hK K'
        (try simp only [Act.put, List.setIfInBounds_toArray, List.set_cons_zero, List.set_cons_succ])
        refine wpAnyN_done (by kernel_rfl) ?_
        have HM4 := Lib.hid (HM3.out.keep ((Below.refl _ _).drew.trans hb1))
        have HM5 : Hid (WvM w2 ((wq1.setCell ⟨K, c, none⟩ (.int .u64 (R : Int))).setCell ⟨X, 18 + c, none⟩ (.int .i64 (rd : Int))) X K F (.slice A nc cA) g ⟨lessR st.r c, fun d => if d = c then withN (st.gv d) T else st.gv d, l1⟩) := Lib.hid (HM4.out.step HXK3.out hc (fun i _ => by
          show lessR st.r c i = _
          unfold lessR
          by_cases e : i = c
          · subst e; rw [if_pos rfl, if_pos rfl, HRC.out, HRD.out]
          · rw [if_neg e, if_neg e]) (fun i _ => by
          show (if i = c then withN (st.gv i) T else st.gv i) = _
          by_cases e : i = c
          · subst e; rw [if_pos rfl, if_pos rfl, HRE.out]
          · rw [if_neg e, if_neg e]))
        have HLX : Hid (LoomIn (wq1.setCell ⟨K, c, none⟩ (.int .u64 (R : Int))) X F (.slice A nc cA) g st.r) := Lib.hid ((heap_other wq1 _ (by exact HXK3.out)).trans HM4.out.lm)
        obtain ⟨wS, hwS⟩ : ∃ wS, wq1.setCell ⟨K, c, none⟩ (.int .u64 (R : Int)) = wS := ⟨_, rfl⟩
        rw [hwS] at HM5 HLX ⊢
        have y0 := HLX.out.room hc
        rw [HRC.out] at y0
        have y1 : wS.frozen? ⟨X, 18 + c, none⟩ = false := block_free HLX.out
        clear hwS hb1 hjb hJ hJl hjt z0 z1 m1 hor
        go_wp2_with fail
        go_roundg (F - (T + 1))
        case measure => have := HG.out; omega
        case rel => exact ⟨T + 1, by omega, rfl, by rw [HST.out], by go_num, by rw [HST.out]; exact HM5⟩
    · have HEQ : Hid (wvT g r S F = wvT g r S T) := Lib.hid (by
        by_cases hTF : T = F
        · rw [hTF]
        · have h0 : (wvT g r S T).lack = 0 := by omega
          have := wv_stop h0 (F - T)
          rwa [show T + (F - T) = F by omega] at this)
      obtain ⟨gv, hgv⟩ : ∃ gv, (wvT g r S T).gv = gv := ⟨_, rfl⟩
      have HGV : Hid ((wvT g r S F).gv = gv) := Lib.hid (by rw [HEQ.out, hgv])
      obtain ⟨U, hU⟩ : ∃ U, arrU gv = U := ⟨_, rfl⟩
      have HKU : Hid (wr.heap[K]? = some (.cells U 54 (0, 0))) := Lib.hid (by rw [← hU, ← hgv]; exact HMW.out.giv)
      have HSU : Hid ((Try.prog.info? 54).map (·.size) = some U.size) := Lib.hid (by rw [← hU]; exact Try.sizeAU _)
      have HPI := Lib.hid (pieces_any gv wr)
      rw [hU] at HPI
      have HBW := Lib.hid (HB2.out.trans (HMW.out.apart.below HXK.out.2.2 fun b hb e => by have := HXK.out; omega))
      have hlk : (wvT g r S T).lack ≤ 64 := Nat.le_trans (wv_lack g r S T) HSS.out
      obtain ⟨lk, hlke⟩ : ∃ lk, (wvT g r S T).lack = lk := ⟨_, rfl⟩
      rw [hlke] at hgo hlk ⊢
      clear hgv hU hlke
      by_cases hTF : T < F
      · have hltz : (T : Int) < (F : Int) := by omega
        have hl0 : lk = 0 := by omega
        subst hl0
        go_wp2_with (refine wpList_load_row rfl _ _ rfl K rfl 54 U (0, 0) _ HKU.out Try.underlying54 rfl HSU.out ?_)
        refine HPI.out.mono ?_
        rintro e w4 ⟨A4, n4, c4, rfl, hp4, hb4⟩
        have HP4 := Lib.hid hp4
        have HB4 := Lib.hid (HBW.out.trans (hb4.mono HBW.out.size))
        clear hp4 hb4
        go_wp2_with fail
        go_ret
        exact ⟨_, _, _, rfl, by rw [HGV.out]; exact HP4.out.mono fun b _ hb => (Nat.le_trans HBW.out.size hb : w.heap.size ≤ b), HB4.out⟩
      · have hdf : decide ((T : Int) < (F : Int)) = false := decide_eq_false (by omega)
        go_wp2_with (refine wpList_load_row rfl _ _ rfl K rfl 54 U (0, 0) _ HKU.out Try.underlying54 rfl HSU.out ?_)
        refine HPI.out.mono ?_
        rintro e w4 ⟨A4, n4, c4, rfl, hp4, hb4⟩
        have HP4 := Lib.hid hp4
        have HB4 := Lib.hid (HBW.out.trans (hb4.mono HBW.out.size))
        clear hp4 hb4
        go_wp2_with fail
        go_ret
        exact ⟨_, _, _, rfl, by rw [HGV.out]; exact HP4.out.mono fun b _ hb => (Nat.le_trans HBW.out.size hb : w.heap.size ≤ b), HB4.out⟩
end Go.Proofs.Ytkgkanmccaodfaa
