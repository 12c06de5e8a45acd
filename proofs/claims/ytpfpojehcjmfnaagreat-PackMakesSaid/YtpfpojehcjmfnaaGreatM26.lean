/-
  Wants along the chain, of the document.
  Conditions: the slices read as places, as wants; the wants may go; both are short.
-/
import Derived.Test.YtpfpojehcjmfnaaGreatM25
import Derived.Test.YtpfpojehcjmfnaaGreatM20

/-
  Wants along the chain, of the document.
  Conditions: the slices read as places, as wants; the wants may go; both are short.
-/
set_option linter.unusedVariables false
set_option linter.unusedSimpArgs false
namespace Go.Proofs.YtpfpojehcjmfnaaGreat
open Go.RowKit

/-- Some wants behind: the plan so far in block P, what is left of the rooms in block G. -/
structure RfSt (n m P G Q : Nat) (w wr : World) (v : Value) (l : List Pl) : Prop where
  below : Below w.heap.size w wr
  box : wr.heap[P]? = some (.cells #[.int .i64 n, .int .u32 m, v] 26 (0, 0))
  pls : PlsIn (fun b => b ≠ P ∧ b ≠ G ∧ b ≠ Q) wr v l
  row : RowC wr G fun i => (rmN n m l i : Int)
  q : wr.heap[Q]? = some (.cells #[.int .i64 0, .int .u32 0, .slice none 0 0] 26 (0, 0))
  lt : w.heap.size ≤ P ∧ P < Q ∧ Q < G

theorem RfSt.at_ {n m P G Q X B : Nat} {w wr wv : World} {v vx : Value} {l : List Pl} {u s c : Int} {ps : List Pc} {r : Nat → Nat} (h : RfSt n m P G Q w wr v l) (hx : RxSt G X B u s wr wv c vx ps r) :
    wv.heap[P]? = some (.cells #[.int .i64 n, .int .u32 m, v] 26 (0, 0)) ∧ PlsIn (fun b => b ≠ P ∧ b ≠ G ∧ b ≠ Q) wv v l ∧ wv.heap[Q]? = some (.cells #[.int .i64 0, .int .u32 0, .slice none 0 0] 26 (0, 0)) ∧ Below w.heap.size w wv := by
  obtain ⟨l1, l2, l3⟩ := h.lt
  have hs := h.below.size
  exact ⟨(hx.ap.block P (heap_lt h.box) (by omega)).trans h.box, h.pls.keepF hx.ap.size fun b hb hF => hx.ap.block b hb hF.2.1, (hx.ap.block Q (heap_lt h.q) (by omega)).trans h.q, h.below.trans (hx.ap.below hs fun b hb e => by omega)⟩
theorem RfSt.put {n m P G Q X B : Nat} {w wr wv w9 : World} {v v9 vx : Value} {l l9 : List Pl} {u s c : Int} {ps : List Pc} {r : Nat → Nat} (h : RfSt n m P G Q w wr v l) (hx : RxSt G X B u s wr wv c vx ps r) (hb : Below wv.heap.size wv w9)
    (hp : PlsIn (fun b => (b ≠ P ∧ b ≠ G ∧ b ≠ Q) ∨ wv.heap.size ≤ b) w9 v9 l9) (hr : ∀ i, i < 16 → rmN n m l9 i = r i) : RfSt n m P G Q w (w9.setRow P #[.int .i64 n, .int .u32 m, v9]) v9 l9 := by
  obtain ⟨h1, _, h3, h4⟩ := h.at_ hx
  obtain ⟨l1, l2, l3⟩ := h.lt
  obtain ⟨k1, k2, k3, k4⟩ := hx.lt
  have hP := heap_lt h1
  have hQ := heap_lt h3
  have hG := hx.row.lt
  have hs := h4.size
  have hp2 : PlsIn (fun b => b ≠ P ∧ b ≠ G ∧ b ≠ Q) w9 v9 l9 := hp.mono fun b _ hF => by
    rcases hF with hF | hF
    · exact hF
    · omega
  exact ⟨below_row (h4.trans (hb.mono hs)) l1 _, setRow_heap _ _ _ _ _ _ (keep_block h1 hb), PlsIn.setRow hp2 (.inl fun e => e.1 rfl), ((hx.row.same (hb.block G hG)).same (setRow_other _ _ _ _ (by omega))).congr fun i hi => by rw [hr i hi], (setRow_other _ _ _ _ (by omega)).trans (keep_block h3 hb), h.lt⟩
theorem RxSt.congr {G X B : Nat} {u s c : Int} {wS wx : World} {v : Value} {ps : List Pc} {r r' : Nat → Nat} (h : RxSt G X B u s wS wx c v ps r) (e : ∀ i, r i = r' i) : RxSt G X B u s wS wx c v ps r' := by
  rw [show r' = r from funext fun i => (e i).symm]
  exact h
theorem RxSt.pcs {n m P G Q X B : Nat} {w wr wv : World} {v vx : Value} {l : List Pl} {u s c : Int} {ps : List Pc} {r : Nat → Nat} (h : RfSt n m P G Q w wr v l) (hx : RxSt G X B u s wr wv c vx ps r) : PcsIn (fun b => b ≠ P ∧ b ≠ G ∧ b ≠ Q) wv vx ps := by
  obtain ⟨l1, l2, l3⟩ := h.lt
  obtain ⟨k1, k2, k3, k4⟩ := hx.lt
  exact (pcs_of_own hx.own).mono fun b _ hb => by omega

set_option maxRecDepth 100000 in
set_option maxHeartbeats 8000000 in
theorem refSplitC_any (f : Int) (m : Nat) (v : Value) (l : List Pl) (vw : Value) (ws : List Sp) (w : World) (h : PlsAt w v l) (hL : LightL l) (hw : SpansAt w vw ws) (hg : ChGoes f m l ws) (hl : l.length + ws.length ≤ 300) :
    Calls Tryz.prog 45 #[planA f m v, vw] w (fun e w' => ∃ v', e = .returned (planA f m v') ∧ PlsAt w' v' (chT f m l ws).1 ∧ Below w.heap.size w w') := by
  have mixed : Tryz.prog.follows .mixedOrders = true := by kernel_rfl
  obtain ⟨i0, hi0, hz0, hz1, hz2⟩ := info_parts Tryz.infoPc
  have HG := Lib.hid hg
  have HR := Lib.hid hg.goes.right
  obtain ⟨n, rfl⟩ : ∃ n : Nat, f = n := ⟨f.toNat, by have := HR.out.f2; omega⟩
  have HRO := Lib.hid (fun w h => refRoomsC_any n m v l w h hL hg.goes.right)
  have HOK := Lib.hid hL.ok
  have HH := Lib.hid h
  have HW := Lib.hid hw
  have HLL := Lib.hid hl
  unfold planA at HRO
  obtain ⟨w1, P, hw1, hP, hPl, hb1, hbox⟩ := box_any w #[.int .i64 n, .int .u32 m, v] 26
  obtain ⟨w2, Q, hw2, hQ, hQl, hb2, hrox⟩ := box_any w1 #[.int .i64 0, .int .u32 0, .slice none 0 0] 26
  have HB2 := Lib.hid (hb1.trans (hb2.mono hb1.size))
  have HPB := Lib.hid (keep_block hbox hb2)
  have HQB := Lib.hid hrox
  have HLT := Lib.hid (show w.heap.size ≤ P ∧ P < Q ∧ Q < w2.heap.size by have := hb1.size; omega)
  obtain ⟨p0, p1, p2⟩ := three_heads HPB.out
  clear h hL hw hl hg hb1 hb2 hbox hrox
  unfold planA
  go_enter Tryz.func45, Tryz.ntmps45
  go_wp2_with fail
  refine (HRO.out _ (HH.out.keep HB2.out)).mono ?_
  rintro e w3 ⟨v3, rfl, hown, hb3⟩
  obtain ⟨G, cap, rfl, hG, hrow⟩ := rowC_of_own hown
  have hPLI : PlsIn (fun b => b ≠ P ∧ b ≠ G ∧ b ≠ Q) w3 v l := ((HH.out.mono (G := fun b => b ≠ P ∧ b ≠ G ∧ b ≠ Q) fun b hb _ => by have := HLT.out; omega).keep (HB2.out.trans (hb3.mono HB2.out.size)))
  have HST0 : Hid (RfSt n m P G Q w w3 v l) := Lib.hid ⟨HB2.out.trans (hb3.mono HB2.out.size), keep_block HPB.out hb3, hPLI, hrow.congr fun i hi => ((HR.out.rm hi).1).symm, keep_block HQB.out hb3, by have := HLT.out; omega⟩
  obtain ⟨Aw, cw, rfl, hcw1, hcw3, hcw2, hat⟩ := HW.out
  have HAT := Lib.hid hat
  obtain ⟨k1, hk1⟩ : ∃ k1, ws.length = k1 := ⟨_, rfl⟩
  have HNW := Lib.hid hk1
  rw [hk1] at HAT HW hcw1 hcw3 ⊢
  clear hb3 hown hG hrow hPLI hat hk1 hcw2 p0 p1 p2 hw1 hP hw2 hQ
  go_wp2_with fail
  go_loopg [6, 7, 8, 9, 10, 11] k1 (fun gg s6 s7 _ _ _ _ wr => ∃ (k a : Nat) (vp : Value), k ≤ k1 ∧ gg = k1 - k ∧ s7 = .int .i64 k ∧ s6 = .int .i64 a ∧ a = (chT n m l (ws.take k)).2 ∧ RfSt n m P G Q w wr vp (chT n m l (ws.take k)).1)
  case atStart => exact ⟨0, 0, _, Nat.zero_le _, by omega, rfl, rfl, rfl, HST0.out⟩
  case round =>
    obtain ⟨k, a, vp, hk, hg, rfl, rfl, ha, hst⟩ := hrel
    have HGS := Lib.hid hg
    obtain ⟨wS, rfl⟩ : ∃ wS : World, wS = wr := ⟨_, rfl⟩
    by_cases hlt : k < k1
    · have hltz : (k : Int) < (k1 : Int) := by omega
      have hk0 : (0 : Int) ≤ (k : Int) := by omega
      obtain ⟨y, hy⟩ := ex_at (xs := ws) (k := k) (by rw [HNW.out]; exact hlt)
      have hinv := HG.out.inv k (by have := HNW.out; omega)
      have hlen := hinv.len
      rw [List.length_take, Nat.min_eq_left (by have := HNW.out; omega)] at hlen
      have hwok := (WOk.of_chk HG.out.goes.chk).2
      obtain ⟨hyu, hy1, hy2⟩ := hwok.all y (List.mem_of_getElem? hy)
      have hstep := chT_take (f := n) (m := m) (l := l) hy
      have hfr := hinv.free
      have hroom := HG.out.room
      have hsle := sum_take_le ws (k + 1) fun v hv => by have := hwok.all v hv; omega
      rw [List.take_add_one, hy, Option.toList_some, sumS_append, show sumS [y] = y.2 by simp [sumS]] at hsle
      have htk : ws.take (k + 1) = ws.take k ++ [y] := by rw [List.take_add_one, hy, Option.toList_some]
      have hwf : WOk n (ws.take k ++ [y]) := by
        rw [← htk]
        exact WOk.front (b := ws.drop (k + 1)) (by rw [List.take_append_drop]; exact hwok)
      have hny : ∀ z ∈ (chT n m l (ws.take k)).1, z.u ≠ y.1 := fun z hz => by
        rcases hinv.units z hz with h | ⟨v, hv, he⟩
        · exact anyB_no HG.out.goes.none z h y (List.mem_of_getElem? hy)
        · rw [← he]
          exact hwf.last v hv
      obtain ⟨b0, off, hA, hbl, hcell⟩ := HAT.out (by omega)
      subst hA
      have HSW : Hid (∀ W', Below w.heap.size w W' → W'.cell? ⟨b0, off + k * 2, none⟩ = some (.int .i64 y.1) ∧ W'.cell? ⟨b0, off + k * 2 + 1, none⟩ = some (.int .i64 y.2)) := Lib.hid fun W' hb => (hcell k y hy).keep hb hbl
      obtain ⟨L, a', hLa⟩ : ∃ L a', chT n m l (ws.take k) = (L, a') := ⟨_, _, rfl⟩
      rw [hLa] at hinv hlen hstep hfr hst hny ha
      simp only at hinv hlen hfr hst hny ha
      subst ha
      have hrdy : Ready n m L a := hinv.ready
      have hRL := hrdy.right
      have hta := hrdy.tick
      rw [Int.toNat_natCast] at hta
      have hf2 := hRL.f2
      have hf64 := hRL.f64
      obtain ⟨s, hs⟩ : ∃ s, y.2.toNat = s := ⟨_, rfl⟩
      have hsy : y.2 = (s : Int) := by omega
      obtain ⟨r, hr⟩ : ∃ r, rmN n m L = r := ⟨_, rfl⟩
      have hsum : s ≤ sumTo r 16 := by
        have q := rm_free hRL 16 (Nat.le_refl _)
        rw [hr] at q
        omega
      have hrn : ∀ i, i < 16 → r i ≤ n := fun i hi => by
        have := (hRL.rm hi).2.1
        rw [hr, Int.toNat_natCast] at this
        exact this
      obtain ⟨xp, hxp⟩ : ∃ xp, placeX n a r y.1 s = xp := ⟨_, rfl⟩
      have hstep2 : chT n m l (ws.take (k + 1)) = (addU L xp, placeT n a r s) := by
        rw [hstep, chS_place hy1, hr, hs, hxp]
      have hnL : ∀ i, i < 16 → rmN n m (addU L xp) i = placeR r s i := fun i hi => by
        rw [← hxp]
        by_cases hc : s ≤ r (curN r)
        · have hw := (hrdy.whole (w := y) hny hyu hy1 hy2 (by rw [hs, hr]; exact hc)).2 i hi
          rw [hr, hs] at hw
          unfold placeX placeR
          rw [if_pos hc, if_pos hc, ← hsy]
          exact hw
        · have hw := (hrdy.split (w := y) hny hyu hy1 hy2 (by rw [hs, hr]; exact hc) (by rw [hs, hr]; exact hsum)).2.1 i hi
          unfold splP at hw
          rw [hr, hs, Int.toNat_natCast] at hw
          unfold placeX placeR
          rw [if_neg hc, if_neg hc, ← hsy]
          exact hw
      have HS1 := Lib.hid hstep2
      have HXD := Lib.hid hxp
      have HNL := Lib.hid hnL
      have HSY := Lib.hid hsy
      have HLE := Lib.hid (show L.length ≤ 1000 by have := HLL.out; have := HNW.out; omega)
      have HAS := Lib.hid (fun u => dropT_asc hRL.pairs u)
      have HRN := Lib.hid hrn
      obtain ⟨hkn, hk16⟩ := cur_ne (r := r) (by omega)
      obtain ⟨_, hkz, _⟩ := cur_some (r := r)
      have HKN := Lib.hid hkn
      have HKZ := Lib.hid hkz
      have HST := Lib.hid hst
      have HROW : Hid (RowC wS G fun i => (r i : Int)) := Lib.hid (by rw [← hr]; exact hst.row)
      have hs1 : 1 ≤ s := by omega
      have hsn : s ≤ n := by omega
      have hn2 : 2 ≤ n := by omega
      have hn64 : n ≤ 64 := by omega
      have HSUM := Lib.hid hsum
      obtain ⟨c1, hc1⟩ : ∃ c1, curN r = c1 := ⟨_, rfl⟩
      have HCU := Lib.hid hc1
      obtain ⟨x, hx⟩ : ∃ x, r c1 = x := ⟨_, rfl⟩
      have HX := Lib.hid hx
      rw [hc1] at HKN HKZ hk16
      rw [hx] at HKN
      have hxn : x ≤ n := by rw [← hx]; exact hrn c1 hk16
      have HBW := Lib.hid hst.below
      obtain ⟨q1, q2⟩ := HSW.out _ hst.below
      have HHW := Lib.hid (show b0 < w.heap.size from hbl)
      have HLTP := Lib.hid hst.lt
      obtain ⟨y1, y2⟩ := y
      simp only at *
      subst hsy
      clear hst hinv hlen hstep hfr hroom hsle htk hwf hny hwok hcell hrdy hRL hrn hxp hstep2 hnL hr hs hsum hLa hf2 hf64 hkn hkz hc1 hx hg HAT hyu hy1 hy2 hy HSY HW
      go_upto_block 2 with fail
      go_cut [8] from 20 to 30 (fun s8 wx => s8 = .int .i64 (c1 : Int) ∧ wx = wS)
      case first =>
        as_aux_lemma =>
          clear q1 q2
          go_wp2_with fail
          go_loopg [8] c1 (fun gg s8 wx => ∃ j : Nat, j ≤ c1 ∧ gg = c1 - j ∧ s8 = .int .i64 (j : Int) ∧ wx = wS)
          case atStart => exact ⟨0, Nat.zero_le _, rfl, rfl, rfl⟩
          case round =>
            obtain ⟨j, hj, hg, rfl, rfl⟩ := hrel
            have HGJ := Lib.hid hg
            clear hg
            by_cases hlt : j < c1
            · have hj15 : (j : Int) < 15 := by omega
              have hj0 : (0 : Int) ≤ (j : Int) := by omega
              have hj16 : (j : Int) < 16 := by omega
              have g0 := HROW.out.cell (show j < 16 by omega)
              rw [HKZ.out j hlt] at g0
              go_wp2_with fail
              go_roundg (c1 - (j + 1))
              case measure => have := HGJ.out; omega
              case rel => exact ⟨j + 1, by omega, rfl, by go_num, rfl⟩
            · have hjc : j = c1 := by omega
              subst hjc
              by_cases h15 : j < 15
              · have hj15 : (j : Int) < 15 := by omega
                have hj0 : (0 : Int) ≤ (j : Int) := by omega
                have hj16 : (j : Int) < 16 := by omega
                have g0 := HROW.out.cell (show j < 16 by omega)
                rw [HX.out] at g0
                have hx0 : ((x : Int) == 0) = false := by have := HKN.out; simpa using this
                go_wp2_with fail
                go_meet
                exact ⟨rfl, rfl⟩
              · have hj15 : ¬ (j : Int) < 15 := by omega
                go_wp2_with fail
                go_meet
                exact ⟨rfl, rfl⟩
      case rest =>
        obtain ⟨rfl, hwc⟩ := hcut
        have hwc := hwc.symm
        subst hwc
        have hk0 : Below w.heap.size w wS.drew := HBW.out.drew
        go_wp2_with fail
        refine wp_region_held_drew (S := fun w' => w'.cell? ⟨b0, off + k * 2, none⟩ = some (.int .i64 y1) ∧ w'.cell? ⟨b0, off + k * 2 + 1, none⟩ = some (.int .i64 s)) (by kernel_rfl) ?_ (fun hHeld => ?_)
        · exact HSW.out _ hk0
        refine wpAnyH_take (i := 0) (oi := ⟨some 31, _, _, _, _, _⟩) (v := ?_) rfl (by kernel_rfl) (by kernel_rfl) (by kernel_rfl) (fun _ _ _ h => h) (Or.inl ⟨by kernel_rfl, ?_⟩) (by assumption) ?_
        rotate_left
        · (intro w hSw; (try dsimp only at hSw); go_simp; try with_reducible rfl)
        (try simp only [Act.put, List.setIfInBounds_toArray, List.set_cons_zero, List.set_cons_succ])
        refine wpAnyH_take (i := 1) (oi := ⟨some 32, _, _, _, _, _⟩) (v := ?_) rfl (by kernel_rfl) (by kernel_rfl) (by kernel_rfl) (fun _ _ _ h => h) (Or.inl ⟨by kernel_rfl, ?_⟩) (by assumption) ?_
        rotate_left
        · (intro w hSw; (try dsimp only at hSw); go_simp; try with_reducible rfl)
        (try simp only [Act.put, List.setIfInBounds_toArray, List.set_cons_zero, List.set_cons_succ])
        refine wpAnyH_take (i := 2) (oi := ⟨some 33, _, _, _, _, _⟩) (v := ?_) rfl (by kernel_rfl) (by kernel_rfl) (by kernel_rfl) (fun _ _ _ h => h) (Or.inl ⟨by kernel_rfl, ?_⟩) (by assumption) ?_
        rotate_left
        · (intro w hSw; (try dsimp only at hSw); go_simp; try with_reducible rfl)
        (try simp only [Act.put, List.setIfInBounds_toArray, List.set_cons_zero, List.set_cons_succ])
        refine wpAnyH_take (i := 3) (oi := ⟨some 34, _, _, _, _, _⟩) (v := ?_) rfl (by kernel_rfl) (by kernel_rfl) (by kernel_rfl) (fun _ _ _ h => h) (Or.inl ⟨by kernel_rfl, ?_⟩) (by assumption) ?_
        rotate_left
        · (intro w hSw; (try dsimp only at hSw); go_simp; try with_reducible rfl)
        (try simp only [Act.put, List.setIfInBounds_toArray, List.set_cons_zero, List.set_cons_succ])
        refine wpAnyH_take (i := 4) (oi := ⟨some 35, _, _, _, _, _⟩) (v := ?_) rfl (by kernel_rfl) (by kernel_rfl) (by kernel_rfl) (fun _ _ _ h => h) (Or.inl ⟨by kernel_rfl, ?_⟩) (by assumption) ?_
        rotate_left
        · (intro w hSw; (try dsimp only at hSw); go_simp; try with_reducible rfl)
        (try simp only [Act.put, List.setIfInBounds_toArray, List.set_cons_zero, List.set_cons_succ])
        refine wpAnyH_take (i := 5) (oi := ⟨some 36, _, _, _, _, _⟩) (v := ?_) rfl (by kernel_rfl) (by kernel_rfl) (by kernel_rfl) (fun _ _ _ h => h) (Or.inl ⟨by kernel_rfl, ?_⟩) (by assumption) ?_
        rotate_left
        · (intro w hSw; (try dsimp only at hSw); go_simp; try with_reducible rfl)
        (try simp only [Act.put, List.setIfInBounds_toArray, List.set_cons_zero, List.set_cons_succ])
        refine wpAnyH_take (i := 6) (oi := ⟨some 37, _, _, _, _, _⟩) (v := ?_) rfl (by kernel_rfl) (by kernel_rfl) (by kernel_rfl) (fun _ _ _ h => h) (Or.inl ⟨by kernel_rfl, ?_⟩) (by assumption) ?_
        rotate_left
        · (intro w hSw; (try dsimp only at hSw); go_simp; try with_reducible rfl)
        (try simp only [Act.put, List.setIfInBounds_toArray, List.set_cons_zero, List.set_cons_succ])
        refine wpAnyH_take (i := 7) (oi := ⟨some 38, _, _, _, _, _⟩) (v := ?_) rfl (by kernel_rfl) (by kernel_rfl) (by kernel_rfl) (fun _ _ _ h => h) (Or.inl ⟨by kernel_rfl, ?_⟩) (by assumption) ?_
        rotate_left
        · (intro w hSw; (try dsimp only at hSw); go_simp; try with_reducible rfl)
        (try simp only [Act.put, List.setIfInBounds_toArray, List.set_cons_zero, List.set_cons_succ])
        refine wpAnyH_take (i := 8) (oi := ⟨some 39, _, _, _, _, _⟩) (v := ?_) rfl (by kernel_rfl) (by kernel_rfl) (by kernel_rfl) (fun _ _ _ h => h) (Or.inl ⟨by kernel_rfl, ?_⟩) (by assumption) ?_
        rotate_left
        · (intro w hSw; (try dsimp only at hSw); go_simp; try with_reducible rfl)
        (try simp only [Act.put, List.setIfInBounds_toArray, List.set_cons_zero, List.set_cons_succ])
        refine wpAnyH_take (i := 9) (oi := ⟨some 40, _, _, _, _, _⟩) (v := ?_) rfl (by kernel_rfl) (by kernel_rfl) (by kernel_rfl) (fun _ _ _ h => h) (Or.inl ⟨by kernel_rfl, ?_⟩) (by assumption) ?_
        rotate_left
        · (intro w hSw; (try dsimp only at hSw); go_simp; try with_reducible rfl)
        (try simp only [Act.put, List.setIfInBounds_toArray, List.set_cons_zero, List.set_cons_succ])
        refine wpAnyH_take (i := 10) (oi := ⟨some 41, _, _, _, _, _⟩) (v := ?_) rfl (by kernel_rfl) (by kernel_rfl) (by kernel_rfl) (fun _ _ _ h => h) (Or.inl ⟨by kernel_rfl, ?_⟩) (by assumption) ?_
        rotate_left
        · (intro w hSw; (try dsimp only at hSw); go_simp; try with_reducible rfl)
        (try simp only [Act.put, List.setIfInBounds_toArray, List.set_cons_zero, List.set_cons_succ])
        refine wpAnyH_take (i := 11) (oi := ⟨some 42, _, _, _, _, _⟩) (v := ?_) rfl (by kernel_rfl) (by kernel_rfl) (by kernel_rfl) (fun _ _ _ h => h) (Or.inl ⟨by kernel_rfl, ?_⟩) (by assumption) ?_
        rotate_left
        · (intro w hSw; (try dsimp only at hSw); go_simp; try with_reducible rfl)
        (try simp only [Act.put, List.setIfInBounds_toArray, List.set_cons_zero, List.set_cons_succ])
        refine wpAnyH_ready (rs := [12]) (by kernel_rfl) (by simp) ?_
        refine AllReadyH.cons (o := ⟨some 9, _, _, _, _, _⟩) rfl (fun K hK => ?_) AllReadyH.nil
        obtain ⟨wx1, X, hwX, hX, hXl, hx1, hxb⟩ := box_any wS.drew #[.int .i64 0, .int .i64 0, .int .i64 0, .slice none 0 0] 48
        rw [if_pos (by kernel_rfl)]
        go_simp
        have hk1 := hk0.trans (hx1.mono hk0.size)
        refine hK.out _ _ ?_ (fun hHeld => ?_)
        · exact HSW.out _ hk1
        clear hK K
        (try simp only [Act.put, List.setIfInBounds_toArray, List.set_cons_zero, List.set_cons_succ])
        clear hwX
        refine wpAnyH_ready (rs := [13]) (by kernel_rfl) (by simp) ?_
        refine AllReadyH.cons (o := ⟨none, _, _, _, _, _⟩) rfl (fun K hK => ?_) AllReadyH.nil
        refine step_store_row16 rfl _ _ _ rfl X #[.int .i64 y1, .int .i64 s, .int .i64 c1, .slice none 0 0] (by simp [Act.eval, Act.put]) (by simp [Act.eval, Act.put]) 48 _ hxb (Tryz.sizePl _ _ _ _) rfl (one4 _ _ _ _ _ _) ?_
        have hkz := below_row hk1 (show w.heap.size ≤ X by rw [← hX]; exact hk0.size) #[.int .i64 y1, .int .i64 s, .int .i64 c1, .slice none 0 0]
        refine hK.out _ _ ?_ (fun hHeld => ?_)
        · exact HSW.out _ hkz
        clear hK K
        (try simp only [Act.put, List.setIfInBounds_toArray, List.set_cons_zero, List.set_cons_succ])
        refine wpAnyH_done (by kernel_rfl) ?_ _
        have hwX : wS.heap.size = X := hX
        have HRX : Hid (RxSt G X wx1.heap.size y1 s wS (wx1.setRow X #[.int .i64 y1, .int .i64 s, .int .i64 c1, .slice none 0 0]) c1 (.slice none 0 0) [] r) := Lib.hid (by
          have hg := HROW.out.lt
          have hd : Below wS.heap.size wS wx1 := (Below.refl wS.heap.size wS).drew.trans hx1
          have hz := below_row hd (show wS.heap.size ≤ X by omega) #[.int .i64 y1, .int .i64 s, .int .i64 c1, .slice none 0 0]
          exact ⟨Apart.of_below hz, HROW.out.same (hz.block G hg), setRow_heap _ _ _ _ _ _ hxb, World.ownsRow_nil _ _ _ _, by simp, by omega⟩)
        generalize wx1.setRow X #[.int .i64 y1, .int .i64 s, .int .i64 c1, .slice none 0 0] = wz at *
        obtain ⟨B, hB⟩ : ∃ B, wx1.heap.size = B := ⟨_, rfl⟩
        rw [hB] at HRX
        have g0 := HRX.out.row.cell hk16
        obtain ⟨g1, g2⟩ := HSW.out _ hkz
        have hxz : ((r c1 : Nat) : Int) = (x : Int) := by rw [HX.out]
        rw [hxz] at g0
        have hcz : (c1 : Int) < 16 := by omega
        have hcz0 : (0 : Int) ≤ (c1 : Int) := by omega
        have HKB := Lib.hid hkz
        clear hk0 hk1 hkz hX hXl hx1 hxb hHeld hwX hB q1 q2 hxz
        go_wp2_with fail
        by_cases hsx : s ≤ x
        · have hd : decide ((s : Int) ≤ (x : Int)) = true := decide_eq_true (by omega)
          have hd2 : (s : Int) ≤ (x : Int) := by omega
          go_quiet (fail)
          have HRQ := Lib.hid (HRX.out.drewN nq)
          have HKQ := Lib.hid (below_drewN HKB.out nq)
          generalize wz.drewN nq = wq at *
          clear g0 g1 g2
          have g0 := HRQ.out.row.cell hk16
          have g5 := HRQ.out.row.frozen c1
          obtain ⟨g1, g2⟩ := HSW.out _ HKQ.out
          have hxz : ((r c1 : Nat) : Int) = (x : Int) := by rw [HX.out]
          rw [hxz] at g0
          clear hxz
          go_wp2_with fail
          go_region
          have HPR : Hid (∀ i, placeR r s i = r i - (if i = c1 then s else 0)) := Lib.hid fun i => by
            have h1 := HCU.out
            have h2 := HX.out
            unfold placeR
            rw [h1, h2, if_pos hsx]
          have HXE : Hid (xp = ⟨y1, s, (c1 : Int), []⟩) := Lib.hid (by
            have h1 := HCU.out
            have h2 := HX.out
            rw [← HXD.out]
            unfold placeX
            rw [h1, h2, if_pos hsx])
          have HTE : Hid (placeT n a r s = a) := Lib.hid (by
            have h1 := HCU.out
            have h2 := HX.out
            unfold placeT
            rw [h1, h2, if_pos hsx])
          have HRZ : Hid (RxSt G X B y1 s wS (wq.setCell ⟨G, c1, none⟩ (.int .i64 ((x : Int) - (s : Int)))).drew c1 (.slice none 0 0) [] (placeR r s)) := Lib.hid ((HRQ.out.room c1 ((x : Int) - (s : Int)) fun i hi => by
            have h2 := HX.out
            rw [HPR.out]
            by_cases h : i = c1
            · subst h
              rw [if_pos rfl, if_pos rfl]
              omega
            · rw [if_neg h, if_neg h]
              omega).drewN 1)
          have HNR : Hid (∀ i, i < 16 → rmN n m (putPl (dropT L (⟨y1, s, (c1 : Int), []⟩ : Pl).u) (⟨y1, s, (c1 : Int), []⟩ : Pl) (posU (dropT L y1) y1)) i = placeR r s i) := Lib.hid (by
            have h := HNL.out
            rw [HXE.out] at h
            exact h)
          generalize (wq.setCell ⟨G, c1, none⟩ (.int .i64 ((x : Int) - (s : Int)))).drew = wv at *
          clear g0 g5 g1 g2
          have HRV := Lib.hid (HST.out.at_ HRZ.out)
          have HPU := Lib.hid (refPut_any (fun b => b ≠ P ∧ b ≠ G ∧ b ≠ Q) n m vp (.slice none 0 0) L ⟨y1, s, (c1 : Int), []⟩ wv HRV.out.2.1 (RxSt.pcs HST.out HRZ.out) HLE.out (posU (dropT L y1) y1) (posU_at _ _ (HAS.out y1)))
          unfold planA plA RetPn planA at HPU
          obtain ⟨p0, p1, p2⟩ := three_heads HRV.out.1
          obtain ⟨x0, x1, x2, x3⟩ := four_heads HRZ.out.x
          go_wp2_with fail
          refine HPU.out.mono ?_
          rintro en w9 ⟨v9, rfl, hpl9, hb9⟩
          have HSTN := Lib.hid (HST.out.put HRZ.out hb9 hpl9 HNR.out)
          obtain ⟨A9, c9, hv9, _, _⟩ := hpl9.form
          obtain ⟨n9, hn9⟩ : ∃ n9, (putPl (dropT L y1) (⟨y1, s, (c1 : Int), []⟩ : Pl) (posU (dropT L y1) y1)).length = n9 := ⟨_, rfl⟩
          have hn9' : (putPl (dropT L (⟨y1, s, (c1 : Int), []⟩ : Pl).u) (⟨y1, s, (c1 : Int), []⟩ : Pl) (posU (dropT L y1) y1)).length = n9 := hn9
          rw [hn9'] at hv9
          subst hv9
          have HPB9 := Lib.hid (keep_block HRV.out.1 hb9)
          clear hb9 hpl9 hn9 hn9' p0 p1 p2 x0 x1 x2 x3
          go_wp2_with (refine wpList_store_row rfl _ _ _ rfl P #[.int .i64 n, .int .u32 m, .slice A9 n9 c9] rfl rfl 26 _ HPB9.out (Tryz.sizePn _ _ _) rfl (one3 _ _ _ _ _) ?_)
          go_roundg (k1 - (k + 1))
          case measure => have := HGS.out; omega
          case rel =>
            refine ⟨k + 1, a, .slice A9 n9 c9, by omega, rfl, by go_num, rfl, ?_, ?_⟩
            · rw [HS1.out]
              exact HTE.out.symm
            · rw [HS1.out]
              show RfSt n m P G Q w _ _ (addU L xp)
              rw [HXE.out]
              exact HSTN.out
        · have hd : decide ((s : Int) ≤ (x : Int)) = false := decide_eq_false (by omega)
          go_quiet (fail)
          have HRQ := Lib.hid (HRX.out.drewN nq)
          generalize wz.drewN nq = wq at *
          clear g0 g1 g2
          obtain ⟨x0, x1, x2, x3⟩ := four_heads HRQ.out.x
          have x5 : wq.frozen? ⟨X, 2, none⟩ = false := by have e := HRQ.out.x; simp [World.frozen?, e]
          have HR0 : Hid (RxSt G X B y1 s wS (wq.setCell ⟨X, 2, none⟩ (.int .i64 0)) 0 (.slice none 0 0) (pcsA n a r 0) (lftN r 0)) := Lib.hid (by
            rw [pcsA_zero]
            exact (HRQ.out.core 0).congr fun i => by unfold lftN takeN; omega)
          have HZ0 : Hid (∀ i, i < c1 → lftN r 0 i = 0) := Lib.hid fun i hi => by
            have := HKZ.out i hi
            unfold lftN takeN
            omega
          have HA0 : Hid (((a + 0) % n : Nat) = a) := Lib.hid (by rw [Nat.add_zero, Nat.mod_eq_of_lt hta])
          go_wp2_with fail
          clear x0 x1 x2 x3 x5
          go_loopg [6, 8, 10, 11] s (fun gg s6 s8 s10 _ wx => ∃ (j cc : Nat) (vx : Value), j ≤ s ∧ gg = s - j ∧ s10 = .int .i64 (j : Int) ∧ s8 = .int .i64 (cc : Int) ∧ s6 = .int .i64 (((a + j) % n : Nat) : Int) ∧ cc ≤ 15 ∧ (∀ i, i < cc → lftN r j i = 0) ∧ RxSt G X B y1 s wS wx 0 vx (pcsA n a r j) (lftN r j))
          case atStart => exact ⟨0, c1, .slice none 0 0, Nat.zero_le _, rfl, rfl, rfl, by rw [HA0.out], by omega, HZ0.out, HR0.out⟩
          case round =>
            obtain ⟨j, cc, vx, hj, hgj, rfl, rfl, rfl, hcc, hzc, hrx⟩ := hrel
            have HGJ := Lib.hid hgj
            obtain ⟨wx, rfl⟩ : ∃ wx : World, wx = wr := ⟨_, rfl⟩
            have HRXJ := Lib.hid hrx
            have hWX := (HST.out.at_ hrx).2.2.2
            obtain ⟨g1, g2⟩ := HSW.out _ hWX
            have HWX := Lib.hid hWX
            by_cases hjs : j < s
            · have hjz : (j : Int) < (s : Int) := by omega
              obtain ⟨e, he16, he, ge1, ge2, hne⟩ := tick_core (r := r) (k := j) (Nat.lt_of_lt_of_le hjs HSUM.out)
              obtain ⟨_, hez, _⟩ := cur_some (r := lftN r j)
              rw [he] at hez
              have hce : cc ≤ e := by
                rcases Nat.lt_or_ge e cc with h | h
                · exact absurd (hzc e h) hne
                · exact h
              obtain ⟨t0, ht0⟩ : ∃ t0, (a + j) % n = t0 := ⟨_, rfl⟩
              have ht0n : t0 < n := by rw [← ht0]; exact Nat.mod_lt _ (by omega)
              have hstp := tick_step (n := n) (a := a) (k := j) (r := r) hta hn64 (by omega) he16 ge1 ge2
              rw [ht0] at hstp
              have HSTP := Lib.hid hstp
              have HLN := Lib.hid (fun i => lft_next ge1 ge2 i)
              have HEZ := Lib.hid hez
              obtain ⟨z, hz⟩ : ∃ z, lftN r j e = z := ⟨_, rfl⟩
              have HZ := Lib.hid hz
              rw [hz] at hne
              have hzp : 1 ≤ z := by omega
              have hzn : z ≤ n := by have := HRN.out e he16; rw [← hz]; unfold lftN; omega
              have HTN : Hid ((a + (j + 1)) % n = (t0 + 1) % n) := Lib.hid (by rw [← ht0, Nat.mod_add_mod, Nat.add_assoc])
              rw [ht0]
              clear hgj hrx hWX hstp hez hz he ge1 ge2 hzc ht0
              go_upto_block 6 with fail
              clear g1 g2
              go_cut [8] from 79 to 89 (fun s8 wy => s8 = .int .i64 (e : Int) ∧ wy = wx)
              case first =>
                as_aux_lemma =>
                  go_wp2_with fail
                  go_loopg [8] (e - cc) (fun gg s8 wy => ∃ i : Nat, cc ≤ i ∧ i ≤ e ∧ gg = e - i ∧ s8 = .int .i64 (i : Int) ∧ wy = wx)
                  case atStart => exact ⟨cc, Nat.le_refl _, hce, rfl, rfl, rfl⟩
                  case round =>
                    obtain ⟨i, hci, hie, hgi, rfl, rfl⟩ := hrel
                    have HGI := Lib.hid hgi
                    clear hgi
                    by_cases hlt : i < e
                    · have hj15 : (i : Int) < 15 := by omega
                      have hj0 : (0 : Int) ≤ (i : Int) := by omega
                      have hj16 : (i : Int) < 16 := by omega
                      have g0 := HRXJ.out.row.cell (show i < 16 by omega)
                      simp only [HEZ.out i hlt] at g0
                      go_wp2_with fail
                      go_roundg (e - (i + 1))
                      case measure => have := HGI.out; omega
                      case rel => exact ⟨i + 1, by omega, by omega, rfl, by go_num, rfl⟩
                    · have hjc : i = e := by omega
                      subst hjc
                      by_cases h15 : i < 15
                      · have hj15 : (i : Int) < 15 := by omega
                        have hj0 : (0 : Int) ≤ (i : Int) := by omega
                        have hj16 : (i : Int) < 16 := by omega
                        have g0 := HRXJ.out.row.cell (show i < 16 by omega)
                        simp only [HZ.out] at g0
                        have hx0 : ((z : Int) == 0) = false := by simpa using hne
                        go_wp2_with fail
                        go_meet
                        exact ⟨rfl, rfl⟩
                      · have hj15 : ¬ (i : Int) < 15 := by omega
                        go_wp2_with fail
                        go_meet
                        exact ⟨rfl, rfl⟩
              case rest =>
                obtain ⟨rfl, hwc⟩ := hcut
                have hwc := hwc.symm
                subst hwc
                obtain ⟨A2, d2, hvx⟩ := own_form HRXJ.out.own
                obtain ⟨N1, hN1⟩ : ∃ N1, (pcsA n a r j).length = N1 := ⟨_, rfl⟩
                rw [hN1] at hvx
                subst hvx
                have HNL1 := Lib.hid hN1
                have hN16 : N1 ≤ 16 := by rw [← hN1]; exact pcsA_few
                obtain ⟨x0, x1, x2, x3⟩ := four_heads HRXJ.out.x
                obtain ⟨β, hβ⟩ : ∃ β : Bool, decide (takeN r j e = 0) = β := ⟨_, rfl⟩
                have HB1 : Hid (β = true → pcsA n a r (j + 1) = pcsA n a r j ++ [⟨(e : Int), withN 0 t0⟩] ∧ ∀ y ∈ pcsA n a r j, y.c < (e : Int)) := Lib.hid fun h => by
                  rw [h] at hβ
                  rcases HSTP.out with h | h
                  · exact h.2
                  · exact absurd (of_decide_eq_true hβ) h.1
                have HB2 : Hid (β = false → ∃ q t, t < 18446744073709551616 ∧ pcsA n a r j = q ++ [⟨(e : Int), t⟩] ∧ pcsA n a r (j + 1) = q ++ [⟨(e : Int), withN t t0⟩]) := Lib.hid fun h => by
                  rw [h] at hβ
                  rcases HSTP.out with h | h
                  · exact absurd h.1 (of_decide_eq_false hβ)
                  · exact h.2
                clear hβ hN1
                go_upto_region 20 with fail
                clear x0 x1 x2 x3
                go_cut [105] from 93 to 105 (fun s105 wy => s105 = .bool β ∧ wy = wx)
                case first =>
                  as_aux_lemma =>
                    obtain ⟨x0, x1, x2, x3⟩ := four_heads HRXJ.out.x
                    rcases List.eq_nil_or_concat (pcsA n a r j) with hnil | ⟨q, z1, hcon⟩
                    · have h0 : N1 = 0 := by rw [← HNL1.out, hnil]; rfl
                      have hbt : β = true := by
                        cases β with
                        | true => rfl
                        | false =>
                          obtain ⟨q, t, _, h1, _⟩ := HB2.out rfl
                          rw [hnil] at h1
                          exact absurd h1 (by simp)
                      subst h0 hbt
                      clear hnil
                      go_wp2_with fail
                      go_meet
                      exact ⟨rfl, rfl⟩
                    · rw [List.concat_eq_append] at hcon
                      have hr2 := HRXJ.out
                      rw [hcon] at hr2
                      obtain ⟨g, d, hv, k1c, k2c, _, _⟩ := hr2.last
                      injection hv with e1 e2 e3
                      subst e1 e3
                      obtain ⟨M, hM⟩ : ∃ M, q.length = M := ⟨_, rfl⟩
                      rw [hM] at k1c e2
                      have hsub : (N1 : Int) - 1 = (M : Int) := by omega
                      have hwr : IntKind.i64.wrap (M : Int) = (M : Int) := IntWalk.i64_in _ (by omega)
                      have hM0 : (0 : Int) ≤ (M : Int) := by omega
                      have hM1 : (M : Int) < (N1 : Int) := by omega
                      have hnz : ((N1 : Int) == 0) = false := by simp; omega
                      have hbe : (z1.c != (e : Int)) = β := by
                        cases β with
                        | true =>
                          have h1 := (HB1.out rfl).2 z1 (by rw [hcon]; simp)
                          simp
                          omega
                        | false =>
                          obtain ⟨q2, t, _, h1, _⟩ := HB2.out rfl
                          rw [hcon] at h1
                          have h2 := List.append_inj_right' h1 rfl
                          injection h2 with h3
                          rw [h3]
                          simp
                      obtain ⟨zc, hzc⟩ : ∃ zc, z1.c = zc := ⟨_, rfl⟩
                      rw [hzc] at hbe k1c
                      clear hr2 k2c hcon hM e2 hzc
                      cases β with
                      | true =>
                        go_wp2_with fail
                        go_meet
                        exact ⟨rfl, rfl⟩
                      | false =>
                        go_wp2_with fail
                        go_meet
                        exact ⟨rfl, rfl⟩
                case rest =>
                  obtain ⟨rfl, hwc⟩ := hcut
                  have hwc := hwc.symm
                  subst hwc
                  go_upto_if 105 with fail
                  go_cut [11] from 106 to 114 (fun s11 wy => ∃ (M g d t : Nat) (q : List Pc), q.length = M ∧ s11 = .int .i64 ((M + 1 : Nat) : Int) ∧ t < 18446744073709551616 ∧ RxSt G X B y1 s wS wy 0 (.slice (some ⟨g, 0, none⟩) (q.length + 1) d) (q ++ [⟨(e : Int), t⟩]) (lftN r j) ∧ pcsA n a r (j + 1) = q ++ [⟨(e : Int), withN t t0⟩])
                  case first =>
                    as_aux_lemma =>
                      cases β with
                      | true =>
                        obtain ⟨x0, x1, x2, x3⟩ := four_heads HRXJ.out.x
                        have hnx := (HB1.out rfl).1
                        have HNX := Lib.hid hnx
                        obtain ⟨q, hq⟩ : ∃ q, pcsA n a r j = q := ⟨_, rfl⟩
                        have hrq := HRXJ.out
                        rw [hq] at hrq HNX
                        have HRQ2 := Lib.hid hrq
                        have HQN : Hid (q.length = N1) := Lib.hid (by rw [← hq]; exact HNL1.out)
                        have hsz := hrq.sz
                        have hown := hrq.own
                        rw [HQN.out] at hown
                        have HOWN := Lib.hid hown
                        have x5 : ∀ wA, Apart (fun b => (Value.slice A2 N1 d2).ownBlock = some b) wx wA → wA.cell? ⟨X, 3, none⟩ = some (.slice A2 N1 d2) ∧ wA.frozen? ⟨X, 3, none⟩ = false := fun wA ha => by
                          have e0 := (ha.block X (heap_lt hrq.x) (fun e => by have := own_base5 hrq.own X e; have := hrq.lt; omega)).trans hrq.x
                          refine ⟨?_, ?_⟩ <;> simp [World.cell?, World.frozen?, e0]
                        have HX5 := Lib.hid x5
                        clear hnx hq hrq hown x5 HB1 HB2
                        go_wp2_with (at_builtin; refine wpList_append_own_at _ rfl _ _ 46 rfl B 84 i0 (.agg #[.int .i64 0, .int .u64 0]) 2 16 Tryz.underlying46 hi0 hz0 hz1 hz2 rfl (by decide) _ _ _ rfl (HOWN.out.alloc _) ⟨wx.heap.size, 0, none⟩ 1 1 [.int .i64 e, .int .u64 0] rfl rfl (World.news_of_block (heap_alloc_new wx _)) (by intro u hu; simp at hu; rcases hu with rfl | rfl <;> rfl) (by unfold maxLen; omega) (by omega) (by simp; omega) ?_)
                        intro v2 wA hownA hgrow _ _
                        obtain ⟨A3, d3, rfl⟩ := own_form hownA
                        have haA : Apart (fun b => (Value.slice A2 N1 d2).ownBlock = some b) wx wA := (Apart.of_below ((Below.refl wx.heap.size wx).alloc (Nat.le_refl _) _)).trans (F' := fun b => (Value.slice A2 N1 d2).ownBlock = some b) ⟨hgrow.os, hgrow.tape, hgrow.output, hgrow.size, fun b hb hne => hgrow.block b hb fun e => hne e.symm⟩ fun _ _ h => h
                        obtain ⟨x3, x5⟩ := HX5.out wA haA
                        have HRN2 : Hid (RxSt G X B y1 s wS (wA.setCell ⟨X, 3, none⟩ (.slice A3 (N1 + 1) d3)) 0 (.slice A3 (N1 + 1) d3) (q ++ [⟨(e : Int), 0⟩]) (lftN r j)) := Lib.hid (HRQ2.out.more (y := ⟨(e : Int), 0⟩) haA (by rw [HQN.out]; exact hownA))
                        clear hownA hgrow haA
                        go_wp2_with fail
                        go_meet
                        have hlast := HRN2.out
                        obtain ⟨g, d, hv, _⟩ := hlast.last
                        injection hv with e1 e2 e3
                        subst e1 e3
                        exact ⟨N1, g, _, 0, q, HQN.out, rfl, by omega, by rw [HQN.out]; exact hlast, HNX.out⟩
                      | false =>
                        obtain ⟨q, t, ht, h1, h2⟩ := HB2.out rfl
                        have hrq := HRXJ.out
                        rw [h1] at hrq
                        obtain ⟨g, d, hv, _⟩ := hrq.last
                        have hlen : N1 = q.length + 1 := by rw [← HNL1.out, h1]; simp
                        have HE : Hid (∃ (M g d t : Nat) (q : List Pc), q.length = M ∧ Value.int .i64 (N1 : Int) = .int .i64 ((M + 1 : Nat) : Int) ∧ t < 18446744073709551616 ∧ RxSt G X B y1 s wS wx 0 (.slice (some ⟨g, 0, none⟩) (q.length + 1) d) (q ++ [⟨(e : Int), t⟩]) (lftN r j) ∧ pcsA n a r (j + 1) = q ++ [⟨(e : Int), withN t t0⟩]) := Lib.hid ⟨q.length, g, d, t, q, rfl, by rw [hlen], ht, by rw [← hv]; exact hrq, h2⟩
                        clear h1 h2 hrq hv hlen
                        go_wp2_with fail
                        go_meet
                        exact HE.out
                  case rest =>
                    obtain ⟨M, g, d, t, q, hM, rfl, ht, hrx2, hnx⟩ := hcut
                    as_aux_lemma =>
                      have HNX := Lib.hid hnx
                      have hql : q.length ≤ 16 := by
                        have h1 := congrArg List.length hnx
                        have h2 : (pcsA n a r (j + 1)).length ≤ 16 := pcsA_few
                        rw [h1] at h2
                        simp at h2
                        omega
                      rw [hM] at hql
                      obtain ⟨tn, htn⟩ : ∃ tn, withN t t0 = tn := ⟨_, rfl⟩
                      rw [htn] at HNX
                      have HWI : Hid (∀ w, Calls Tryz.prog 90 #[.int .u64 t, .int .i64 t0] w (Ret (.int .u64 tn) w)) := Lib.hid fun w => by
                        have h := with_any t (t0 : Int) w ht
                        rw [withI_nat (by omega), htn] at h
                        exact h
                      obtain ⟨g', d', hv, k1c, k2c, k3c, hBg⟩ := hrx2.last
                      injection hv with e1 e2 e3
                      injection e1 with e1
                      injection e1 with e1
                      subst e1 e3
                      have HRX2 := Lib.hid hrx2
                      have hx3 := (four_heads hrx2.x).2.2.2
                      rw [hM] at hx3 k1c k2c k3c
                      obtain ⟨N2, hN2⟩ : ∃ N2, M + 1 = N2 := ⟨_, rfl⟩
                      rw [hN2] at hx3 ⊢
                      have hsub : (N2 : Int) - 1 = (M : Int) := by omega
                      have hwr : IntKind.i64.wrap (M : Int) = (M : Int) := IntWalk.i64_in _ (by omega)
                      have hM0 : (0 : Int) ≤ (M : Int) := by omega
                      have hM1 : (M : Int) < (N2 : Int) := by omega
                      have hgX : X ≠ g := by have := hrx2.lt; omega
                      have hx3d : wc.drew.cell? ⟨X, 3, none⟩ = some (.slice (some ⟨g, 0, none⟩) N2 d) := hx3
                      have ht3d : wc.drew.cell? ⟨g, M * 2 + 1, none⟩ = some (.int .u64 t) ∧ wc.drew.frozen? ⟨g, M * 2 + 1, none⟩ = false := ⟨k2c, k3c⟩
                      have HSZ : Hid ((wc.drew.setCell ⟨g, M * 2 + 1, none⟩ (.int .u64 tn)).cell? ⟨X, 3, none⟩ = some (.slice (some ⟨g, 0, none⟩) N2 d)) := Lib.hid ((cell_same (heap_other wc.drew (o := M * 2 + 1) (.int .u64 tn) hgX) 3).trans hx3d)
                      have HMQ := Lib.hid hM
                      clear hnx htn e2 hrx2 HB1 HB2 k1c k2c k3c hM ht
                      go_wp2_with fail
                      refine wp_region_N (S1 := fun w' => w'.cell? ⟨X, 3, none⟩ = some (.slice (some ⟨g, 0, none⟩) N2 d)) (S2 := fun w' => w'.cell? ⟨g, M * 2 + 1, none⟩ = some (.int .u64 t) ∧ w'.frozen? ⟨g, M * 2 + 1, none⟩ = false) (N := fun i => i != 15) (by kernel_rfl) ?_
                      change wpAnyN _ _ _ _ _ _ _ 16 (Array.replicate 16 false) _ _
                      refine wpAnyN_take false (i := 0) (oi := ⟨some 115, _, _, _, _, _⟩) (v := ?_) rfl (by kernel_rfl) (by kernel_rfl) (by kernel_rfl) (fun _ _ _ h => h) (Or.inl ⟨by kernel_rfl, ?_⟩) ⟨hx3d, fun h => (by cases h)⟩ ?_
                      rotate_left
                      · (intro w hSw; obtain ⟨hSa, hSb⟩ := hSw; clear hSb; (try dsimp only at hSa); go_simp; try with_reducible rfl)
                      (try simp only [Act.put, List.setIfInBounds_toArray, List.set_cons_zero, List.set_cons_succ])
                      refine wpAnyN_take false (i := 1) (oi := ⟨some 116, _, _, _, _, _⟩) (v := ?_) rfl (by kernel_rfl) (by kernel_rfl) (by kernel_rfl) (fun _ _ _ h => h) (Or.inl ⟨by kernel_rfl, ?_⟩) ⟨hx3d, fun h => (by cases h)⟩ ?_
                      rotate_left
                      · (intro w hSw; obtain ⟨hSa, hSb⟩ := hSw; clear hSb; (try dsimp only at hSa); go_simp; try with_reducible rfl)
                      (try simp only [Act.put, List.setIfInBounds_toArray, List.set_cons_zero, List.set_cons_succ])
                      refine wpAnyN_take false (i := 2) (oi := ⟨some 117, _, _, _, _, _⟩) (v := ?_) rfl (by kernel_rfl) (by kernel_rfl) (by kernel_rfl) (fun _ _ _ h => h) (Or.inl ⟨by kernel_rfl, ?_⟩) ⟨hx3d, fun h => (by cases h)⟩ ?_
                      rotate_left
                      · (intro w hSw; obtain ⟨hSa, hSb⟩ := hSw; clear hSb; (try dsimp only at hSa); go_simp; try with_reducible rfl)
                      (try simp only [Act.put, List.setIfInBounds_toArray, List.set_cons_zero, List.set_cons_succ])
                      refine wpAnyN_take false (i := 3) (oi := ⟨some 118, _, _, _, _, _⟩) (v := ?_) rfl (by kernel_rfl) (by kernel_rfl) (by kernel_rfl) (fun _ _ _ h => h) (Or.inl ⟨by kernel_rfl, ?_⟩) ⟨hx3d, fun h => (by cases h)⟩ ?_
                      rotate_left
                      · (intro w hSw; obtain ⟨hSa, hSb⟩ := hSw; clear hSb; (try dsimp only at hSa); go_simp; try with_reducible rfl)
                      (try simp only [Act.put, List.setIfInBounds_toArray, List.set_cons_zero, List.set_cons_succ])
                      refine wpAnyN_take false (i := 4) (oi := ⟨some 119, _, _, _, _, _⟩) (v := ?_) rfl (by kernel_rfl) (by kernel_rfl) (by kernel_rfl) (fun _ _ _ h => h) (Or.inl ⟨by kernel_rfl, ?_⟩) ⟨hx3d, fun h => (by cases h)⟩ ?_
                      rotate_left
                      · (intro w hSw; obtain ⟨hSa, hSb⟩ := hSw; clear hSb; (try dsimp only at hSa); go_simp; try with_reducible rfl)
                      (try simp only [Act.put, List.setIfInBounds_toArray, List.set_cons_zero, List.set_cons_succ])
                      refine wpAnyN_take false (i := 5) (oi := ⟨some 120, _, _, _, _, _⟩) (v := ?_) rfl (by kernel_rfl) (by kernel_rfl) (by kernel_rfl) (fun _ _ _ h => h) (Or.inl ⟨by kernel_rfl, ?_⟩) ⟨hx3d, fun h => (by cases h)⟩ ?_
                      rotate_left
                      · (intro w hSw; obtain ⟨hSa, hSb⟩ := hSw; clear hSb; (try dsimp only at hSa); go_simp; try with_reducible rfl)
                      (try simp only [Act.put, List.setIfInBounds_toArray, List.set_cons_zero, List.set_cons_succ])
                      refine wpAnyN_take false (i := 6) (oi := ⟨some 121, _, _, _, _, _⟩) (v := ?_) rfl (by kernel_rfl) (by kernel_rfl) (by kernel_rfl) (fun _ _ _ h => h) (Or.inl ⟨by kernel_rfl, ?_⟩) ⟨hx3d, fun h => (by cases h)⟩ ?_
                      rotate_left
                      · (intro w hSw; obtain ⟨hSa, hSb⟩ := hSw; clear hSb; (try dsimp only at hSa); go_simp; try with_reducible rfl)
                      (try simp only [Act.put, List.setIfInBounds_toArray, List.set_cons_zero, List.set_cons_succ])
                      refine wpAnyN_take false (i := 7) (oi := ⟨some 122, _, _, _, _, _⟩) (v := ?_) rfl (by kernel_rfl) (by kernel_rfl) (by kernel_rfl) (fun _ _ _ h => h) (Or.inl ⟨by kernel_rfl, ?_⟩) ⟨hx3d, fun h => (by cases h)⟩ ?_
                      rotate_left
                      · (intro w hSw; obtain ⟨hSa, hSb⟩ := hSw; clear hSb; (try dsimp only at hSa); go_simp; try with_reducible rfl)
                      (try simp only [Act.put, List.setIfInBounds_toArray, List.set_cons_zero, List.set_cons_succ])
                      refine wpAnyN_take false (i := 8) (oi := ⟨some 123, _, _, _, _, _⟩) (v := ?_) rfl (by kernel_rfl) (by kernel_rfl) (by kernel_rfl) (fun _ _ _ h => h) (Or.inl ⟨by kernel_rfl, ?_⟩) ⟨hx3d, fun h => (by cases h)⟩ ?_
                      rotate_left
                      · (intro w hSw; obtain ⟨hSa, hSb⟩ := hSw; clear hSb; (try dsimp only at hSa); go_simp; try with_reducible rfl)
                      (try simp only [Act.put, List.setIfInBounds_toArray, List.set_cons_zero, List.set_cons_succ])
                      refine wpAnyN_take false (i := 9) (oi := ⟨some 124, _, _, _, _, _⟩) (v := ?_) rfl (by kernel_rfl) (by kernel_rfl) (by kernel_rfl) (fun _ _ _ h => h) (Or.inl ⟨by kernel_rfl, ?_⟩) ⟨hx3d, fun h => (by cases h)⟩ ?_
                      rotate_left
                      · (intro w hSw; obtain ⟨hSa, hSb⟩ := hSw; clear hSb; (try dsimp only at hSa); go_simp; try with_reducible rfl)
                      (try simp only [Act.put, List.setIfInBounds_toArray, List.set_cons_zero, List.set_cons_succ])
                      refine wpAnyN_take true (i := 10) (oi := ⟨some 125, _, _, _, _, _⟩) (v := ?_) rfl (by kernel_rfl) (by kernel_rfl) (by kernel_rfl) (fun _ _ _ h => h) (Or.inl ⟨by kernel_rfl, ?_⟩) ⟨hx3d, fun _ => ht3d⟩ ?_
                      rotate_left
                      · (intro w hSw; obtain ⟨hSa, hSb⟩ := hSw; have hSc := hSb rfl; clear hSb; (try dsimp only at hSa hSc); go_simp; try with_reducible rfl)
                      (try simp only [Act.put, List.setIfInBounds_toArray, List.set_cons_zero, List.set_cons_succ])
                      refine wpAnyN_take false (i := 11) (oi := ⟨some 126, _, _, _, _, _⟩) (v := ?_) rfl (by kernel_rfl) (by kernel_rfl) (by kernel_rfl) (fun _ _ _ h => h) (Or.inl ⟨by kernel_rfl, ?_⟩) ⟨hx3d, fun h => (by cases h)⟩ ?_
                      rotate_left
                      · (intro w hSw; obtain ⟨hSa, hSb⟩ := hSw; clear hSb; (try dsimp only at hSa); go_simp; try with_reducible rfl)
                      (try simp only [Act.put, List.setIfInBounds_toArray, List.set_cons_zero, List.set_cons_succ])
                      refine wpAnyN_step (i := 12) (by kernel_rfl) rfl (by kernel_rfl) ?_
                      intro K' hK
                      (try simp only [Act.put, List.setIfInBounds_toArray, List.set_cons_zero, List.set_cons_succ])
                      go_simp
                      go_at_call 90; refine (HWI.out _).mono ?_; rintro en w8 ⟨rfl, rfl⟩
                      refine hK.out _ _ (hx3d) (fun _ _ => ht3d) ?_
                      clear hK K'
                      (try simp only [Act.put, List.setIfInBounds_toArray, List.set_cons_zero, List.set_cons_succ])
                      obtain ⟨t3, t4⟩ := ht3d
                      refine wpAnyN_take false (i := 13) (oi := ⟨some 128, _, _, _, _, _⟩) (v := ?_) rfl (by kernel_rfl) (by kernel_rfl) (by kernel_rfl) (fun _ _ _ h => h) (Or.inl ⟨by kernel_rfl, ?_⟩) ⟨hx3d, fun h => (by cases h)⟩ ?_
                      rotate_left
                      · (intro w hSw; obtain ⟨hSa, hSb⟩ := hSw; clear hSb; (try dsimp only at hSa); go_simp; try with_reducible rfl)
                      (try simp only [Act.put, List.setIfInBounds_toArray, List.set_cons_zero, List.set_cons_succ])
                      refine wpAnyN_take false (i := 14) (oi := ⟨some 129, _, _, _, _, _⟩) (v := ?_) rfl (by kernel_rfl) (by kernel_rfl) (by kernel_rfl) (fun _ _ _ h => h) (Or.inl ⟨by kernel_rfl, ?_⟩) ⟨hx3d, fun h => (by cases h)⟩ ?_
                      rotate_left
                      · (intro w hSw; obtain ⟨hSa, hSb⟩ := hSw; clear hSb; (try dsimp only at hSa); go_simp; try with_reducible rfl)
                      (try simp only [Act.put, List.setIfInBounds_toArray, List.set_cons_zero, List.set_cons_succ])
                      refine wpAnyN_step (i := 15) (by kernel_rfl) rfl (by kernel_rfl) ?_
                      intro K' hK
                      (try simp only [Act.put, List.setIfInBounds_toArray, List.set_cons_zero, List.set_cons_succ])
                      go_simp
                      refine hK.out _ _ (HSZ.out) (fun h => by cases h) ?_
                      clear hK K'
                      (try simp only [Act.put, List.setIfInBounds_toArray, List.set_cons_zero, List.set_cons_succ])
                      refine wpAnyN_done (by kernel_rfl) ?_
                      have HRX3 : Hid (RxSt G X B y1 s wS (wc.setCell ⟨g, M * 2 + 1, none⟩ (.int .u64 tn)).drew 0 (.slice (some ⟨g, 0, none⟩) N2 d) (pcsA n a r (j + 1)) (lftN r j)) := Lib.hid (by
                        have h := (HRX2.out.tick (t' := tn)).drewN 1
                        rw [HMQ.out, hN2] at h
                        rw [HNX.out]
                        exact h)
                      clear t3 t4 hx3 hx3d
                      generalize (wc.setCell ⟨g, M * 2 + 1, none⟩ (.int .u64 tn)).drew = w5 at *
                      have g0 := HRX3.out.row.cell he16
                      have g5 := HRX3.out.row.frozen e
                      simp only [HZ.out] at g0
                      have hez0 : (0 : Int) ≤ (e : Int) := by omega
                      have hez16 : (e : Int) < 16 := by omega
                      go_upto_region 25 with fail
                      have HRX4 : Hid (RxSt G X B y1 s wS (w5.setCell ⟨G, e, none⟩ (.int .i64 ((z : Int) - 1))) 0 (.slice (some ⟨g, 0, none⟩) N2 d) (pcsA n a r (j + 1)) (lftN r (j + 1))) := Lib.hid (HRX3.out.room e ((z : Int) - 1) fun i hi => by
                        rw [HLN.out i]
                        by_cases h : i = e
                        · subst h
                          rw [if_pos rfl, if_pos rfl, HZ.out]
                          omega
                        · rw [if_neg h, if_neg h, Nat.sub_zero])
                      clear g0 g5
                      generalize w5.setCell ⟨G, e, none⟩ (.int .i64 ((z : Int) - 1)) = w6 at *
                      have HRV := Lib.hid (HST.out.at_ HRX4.out)
                      obtain ⟨p0, p1, p2⟩ := three_heads HRV.out.1
                      obtain ⟨t1, ht1⟩ : ∃ t1, (t0 + 1) % n = t1 := ⟨_, rfl⟩
                      have HT1 := Lib.hid ht1
                      have hnz : ((n : Int) != 0) = true := by simp; omega
                      have hmod : ((t0 : Int) + 1).tmod (n : Int) = (t1 : Int) := by
                        rw [Int.tmod_eq_emod_of_nonneg (by omega), ← ht1]
                        simp
                      have hwr1 : IntKind.i64.wrap (t1 : Int) = (t1 : Int) := IntWalk.i64_in _ (by have h : t1 < n := (by rw [← ht1]; exact Nat.mod_lt _ (by omega)); omega)
                      clear ht1
                      go_wp2_with fail
                      go_roundg (s - (j + 1))
                      case measure => have := HGJ.out; omega
                      case rel =>
                        refine ⟨j + 1, e, .slice (some ⟨g, 0, none⟩) N2 d, by omega, rfl, by go_num, rfl, by rw [HTN.out, HT1.out], by omega, fun i hi => ?_, HRX4.out⟩
                        rw [HLN.out i, HEZ.out i hi, Nat.zero_sub]
            · have hjz : ¬ (j : Int) < (s : Int) := by omega
              have hjs' : j = s := by omega
              subst hjs'
              obtain ⟨A2, d2, hvx⟩ := own_form hrx.own
              obtain ⟨m2, hm2⟩ : ∃ m2, (pcsA n a r j).length = m2 := ⟨_, rfl⟩
              rw [hm2] at hvx
              subst hvx
              have hm2' : m2 ≤ 16 := by rw [← hm2]; exact pcsA_few
              have HPR : Hid (∀ i, lftN r j i = placeR r j i) := Lib.hid fun i => by
                have h1 := HCU.out
                have h2 := HX.out
                unfold placeR
                rw [h1, h2, if_neg hsx]
                rfl
              have HXE : Hid (xp = ⟨y1, j, 0, pcsA n a r j⟩) := Lib.hid (by
                have h1 := HCU.out
                have h2 := HX.out
                rw [← HXD.out]
                unfold placeX
                rw [h1, h2, if_neg hsx])
              have HTE : Hid (placeT n a r j = (a + j) % n) := Lib.hid (by
                have h1 := HCU.out
                have h2 := HX.out
                unfold placeT
                rw [h1, h2, if_neg hsx])
              have HRZ := Lib.hid (hrx.congr HPR.out)
              have HNR : Hid (∀ i, i < 16 → rmN n m (putPl (dropT L (⟨y1, j, 0, pcsA n a r j⟩ : Pl).u) (⟨y1, j, 0, pcsA n a r j⟩ : Pl) (posU (dropT L y1) y1)) i = placeR r j i) := Lib.hid (by
                have h := HNL.out
                rw [HXE.out] at h
                exact h)
              have HM2 := Lib.hid hm2
              clear hgj hrx hWX hm2 hzc
              have HRV := Lib.hid (HST.out.at_ HRZ.out)
              have HPU := Lib.hid (refPut_any (fun b => b ≠ P ∧ b ≠ G ∧ b ≠ Q) n m vp (.slice A2 m2 d2) L ⟨y1, j, 0, pcsA n a r j⟩ wx HRV.out.2.1 (RxSt.pcs HST.out HRZ.out) HLE.out (posU (dropT L y1) y1) (posU_at _ _ (HAS.out y1)))
              unfold planA plA RetPn planA at HPU
              obtain ⟨p0, p1, p2⟩ := three_heads HRV.out.1
              obtain ⟨x0, x1, x2, x3⟩ := four_heads HRZ.out.x
              go_wp2_with fail
              refine HPU.out.mono ?_
              rintro en w9 ⟨v9, rfl, hpl9, hb9⟩
              have HSTN := Lib.hid (HST.out.put HRZ.out hb9 hpl9 HNR.out)
              obtain ⟨A9, c9, hv9, _, _⟩ := hpl9.form
              obtain ⟨n9, hn9⟩ : ∃ n9, (putPl (dropT L y1) (⟨y1, j, 0, pcsA n a r j⟩ : Pl) (posU (dropT L y1) y1)).length = n9 := ⟨_, rfl⟩
              have hn9' : (putPl (dropT L (⟨y1, j, 0, pcsA n a r j⟩ : Pl).u) (⟨y1, j, 0, pcsA n a r j⟩ : Pl) (posU (dropT L y1) y1)).length = n9 := hn9
              rw [hn9'] at hv9
              subst hv9
              have HPB9 := Lib.hid (keep_block HRV.out.1 hb9)
              clear hb9 hpl9 hn9 hn9' p0 p1 p2 x0 x1 x2 x3
              go_wp2_with (refine wpList_store_row rfl _ _ _ rfl P #[.int .i64 n, .int .u32 m, .slice A9 n9 c9] rfl rfl 26 _ HPB9.out (Tryz.sizePn _ _ _) rfl (one3 _ _ _ _ _) ?_)
              go_roundg (k1 - (k + 1))
              case measure => have := HGS.out; omega
              case rel =>
                refine ⟨k + 1, (a + j) % n, .slice A9 n9 c9, by omega, rfl, by go_num, rfl, ?_, ?_⟩
                · rw [HS1.out]
                  exact HTE.out.symm
                · rw [HS1.out]
                  show RfSt n m P G Q w _ _ (addU L xp)
                  rw [HXE.out]
                  exact HSTN.out
    · have hltz : ¬ (k : Int) < (k1 : Int) := by omega
      have htk : ws.take k = ws := List.take_of_length_le (by rw [HNW.out]; omega)
      rw [htk] at hst
      have HQB7 := Lib.hid hst.q
      have hlt3 := hst.lt
      have HEND : Hid (∃ v', Ending.returned (planA n m vp) = .returned (planA n m v') ∧ PlsAt (wS.setRow Q #[.int .i64 n, .int .u32 m, vp]) v' (chT n m l ws).1 ∧ Below w.heap.size w (wS.setRow Q #[.int .i64 n, .int .u32 m, vp])) := Lib.hid ⟨vp, rfl, (PlsIn.setRow hst.pls (.inl fun h => h.2.2 rfl)).any, below_row hst.below (by omega) _⟩
      obtain ⟨Av, cv, hvv, _, _⟩ := hst.pls.form
      obtain ⟨nv, hnv⟩ : ∃ nv, (chT n m l ws).1.length = nv := ⟨_, rfl⟩
      rw [hnv] at hvv
      subst hvv
      obtain ⟨f0, f1, f2⟩ := three_heads hst.box
      clear hg hst hnv htk
      go_wp2_with (refine wpList_store_row rfl _ _ _ rfl Q #[.int .i64 n, .int .u32 m, .slice Av nv cv] rfl rfl 26 _ HQB7.out (Tryz.sizePn _ _ _) rfl (one3 _ _ _ _ _) ?_)
      refine bodyPost_ret (v := planA n m (.slice Av nv cv)) (results_cell_row rfl _ _ Q _ _ _ _ rfl (setRow_heap _ _ _ _ _ _ HQB7.out) Tryz.underlying26 rfl (Tryz.sizePn _ _ _)) rfl ?_
      exact HEND.out
end Go.Proofs.YtpfpojehcjmfnaaGreat
