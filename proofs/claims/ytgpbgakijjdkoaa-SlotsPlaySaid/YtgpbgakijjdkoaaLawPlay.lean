/-
  The law SlotsPlay.
  Conditions: what the argument reads as.
-/
import Derived.Test.YtgpbgakijjdkoaaPlay
import Derived.Deep.Cut
import Derived.Deep.CutRange
set_option linter.unusedVariables false
namespace Go.Proofs.Ytgpbgakijjdkoaa
open Go.RowKit TI

set_option maxRecDepth 100000 in
set_option maxHeartbeats 16000000 in
theorem play_bad (n ask gen : Int) (v : Value) (W : World) (h : n < 1 ∨ 1024 < n) : Calls Try.prog 3 #[.int .i64 n, v, .int .i64 ask, .int .i64 gen] W (Ans W) := by
  have HN := Lib.hid (new_bad W n h)
  by_cases h1 : n < 1
  · clear h
    go_enter Try.func3, Try.ntmps3
    go_wp2_with fail
    refine HN.out.mono ?_
    rintro e w ⟨rfl, rfl⟩
    go_wp2_with fail
    refine (awake_any W).mono ?_
    rintro e w4 ⟨rfl, h4⟩
    go_wp2_with fail
    go_ret
    exact ⟨rfl, h4⟩
  · have z1 : decide (n < 1) = false := decide_eq_false h1
    have z2 : 1024 < n := by omega
    clear h
    go_enter Try.func3, Try.ntmps3
    go_wp2_with fail
    refine HN.out.mono ?_
    rintro e w ⟨rfl, rfl⟩
    go_wp2_with fail
    refine (awake_any W).mono ?_
    rintro e w4 ⟨rfl, h4⟩
    go_wp2_with fail
    go_ret
    exact ⟨rfl, h4⟩

theorem keep2 {w : World} {o : Obj} {b j : Nat} {v : Value} (h : w.cell? ⟨b, j, none⟩ = some v) (hb : b < w.heap.size) : (w.alloc o).cell? ⟨b, j, none⟩ = some v :=
  ((Below.refl w.heap.size w).alloc (Nat.le_refl _) o).cell (p := ⟨b, j, none⟩) hb |>.trans h

/-- Behind the step: both, and the variables. -/
def MidRel (n B : Nat) (W0 : World) (tb vb nb k : Nat) (wr : World) : Prop :=
  ∃ (sv fv : Value) (s : Ts Int) (b c : Nat) (r : Rs), Both B W0 wr tb sv fv s b c r ∧ s.n = n ∧ r.clk ≤ k + 1 ∧ TVar wr nb b c r ∧ (∃ u0 u1, wr.heap[vb]? = some (.cells #[u0, u1] 30 (0, 0))) ∧ ¬ Foot tb sv fv vb ∧ b ≠ vb
theorem Both.setv {B : Nat} {W0 w : World} {tb : Nat} {sv fv : Value} {s : Ts Int} {b c : Nat} {r : Rs} (h : Both B W0 w tb sv fv s b c r) {vb : Nat} (hv : ¬ Foot tb sv fv vb) (hb : b ≠ vb) (hB : B ≤ vb) (x y : Value) :
    Both B W0 ((w.setCell ⟨vb, 0, none⟩ x).setCell ⟨vb, 1, none⟩ y) tb sv fv s b c r := by
  have hfar : ∀ k, k ≠ vb → ((w.setCell ⟨vb, 0, none⟩ x).setCell ⟨vb, 1, none⟩ y).heap[k]? = w.heap[k]? := fun k hk => (Below.heap_setCell _ _ _ _ hk).trans (Below.heap_setCell _ _ _ _ hk)
  have hsz : w.heap.size ≤ ((w.setCell ⟨vb, 0, none⟩ x).setCell ⟨vb, 1, none⟩ y).heap.size := by simp [World.setCell]
  have H := h.held
  exact ⟨⟨H.lies.keep (fun k hf => hfar k (fun e => hv (e ▸ hf))), H.ok, H.h1, H.h2, H.h3, (H.bel.setCell (p := ⟨vb, 0, none⟩) hB _).setCell (p := ⟨vb, 1, none⟩) hB _, Nat.le_trans H.hB hsz⟩, h.agr, ⟨h.side.at_.keep hsz (hfar b hb), h.side.apart, h.side.cap⟩, h.clk⟩
theorem ne_of_kinds {w : World} {b vb : Nat} {r : Rs} {A : Option Addr} {m cc : Nat} {u : Value} {T : TypeId} (hr : RefAt w b r) (hn : 0 < r.n) (hv : w.heap[vb]? = some (.cells #[.slice A m cc, u] T (0, 0))) : b ≠ vb := fun e => by
  have h0 := (hr.at_ 0 hn).1
  have h1 := cell_of hv 0
  rw [e] at h0
  simp at h0 h1
  rw [h1] at h0
  injection h0 with h0
  cases h0
theorem s2_alloc {w : World} {o : Obj} {p1 p2 p3 p4 p5 p6 : Addr} {v1 v2 v3 v4 v5 v6 : Value} (h : w.cell? p1 = some v1 ∧ w.cell? p2 = some v2 ∧ w.cell? p3 = some v3 ∧ w.cell? p4 = some v4 ∧ w.cell? p5 = some v5 ∧ w.cell? p6 = some v6) :
    (w.alloc o).cell? p1 = some v1 ∧ (w.alloc o).cell? p2 = some v2 ∧ (w.alloc o).cell? p3 = some v3 ∧ (w.alloc o).cell? p4 = some v4 ∧ (w.alloc o).cell? p5 = some v5 ∧ (w.alloc o).cell? p6 = some v6 := by
  obtain ⟨a, b, c, d, e, f⟩ := h
  exact ⟨(World.cell?_alloc_some _ _ _ (by rw [a]; rfl)).trans a, (World.cell?_alloc_some _ _ _ (by rw [b]; rfl)).trans b, (World.cell?_alloc_some _ _ _ (by rw [c]; rfl)).trans c, (World.cell?_alloc_some _ _ _ (by rw [d]; rfl)).trans d, (World.cell?_alloc_some _ _ _ (by rw [e]; rfl)).trans e, (World.cell?_alloc_some _ _ _ (by rw [f]; rfl)).trans f⟩
theorem idsI_same {s : Ts Int} {r : Rs} (a : Agree s r) (o : Okay s) : idsI r.tk r.n = idsI s.use s.m := by unfold idsI; rw [a.ids o]

set_option maxRecDepth 100000 in
set_option maxHeartbeats 64000000 in
theorem play_good (nn : Nat) (ask gen : Int) (v : Value) (l : List ActH) (W : World) (h : ActsAt W v l) (hn0 : 0 < nn) (hn1 : nn ≤ 1024) :
    Calls Try.prog 3 #[.int .i64 nn, v, .int .i64 ask, .int .i64 gen] W (Ans W) := by
  have HNEW := Lib.hid (new_ok W nn hn0 hn1)
  obtain ⟨A, c, rfl, hl, hat⟩ := h
  have HAT := Lib.hid hat
  obtain ⟨len, hlen⟩ : ∃ n, l.length = n := ⟨_, rfl⟩
  have HLEN := Lib.hid hlen
  rw [hlen] at hl ⊢
  obtain ⟨N, hN⟩ : ∃ N, min len 60 = N := ⟨_, rfl⟩
  have HNN := Lib.hid hN
  have hN60 : N ≤ 60 := by omega
  have z1 : ¬ (nn : Int) < 1 := by omega
  have z2 : ¬ (1024 : Int) < (nn : Int) := by omega
  have z3 : decide ((nn : Int) < 1) = false := decide_eq_false z1
  have z4 : decide ((1024 : Int) < (nn : Int)) = false := decide_eq_false z2
  clear hat hlen hN
  go_enter Try.func3, Try.ntmps3
  go_wp2_with fail
  refine HNEW.out.mono ?_
  rintro e w1 hnew
  have K0 := Lib.hid (Held.new (W0 := W) hn0 hn1 (Below.refl W.heap.size W) (Nat.le_refl _) hnew)
  obtain ⟨rfl, _, _⟩ := hnew
  obtain ⟨tb, htb⟩ : ∃ tb, W.heap.size = tb := ⟨_, rfl⟩
  rw [htb] at K0 ⊢
  have HTB := Lib.hid htb
  clear htb HNEW
  go_wp2_with fail
  refine (refNew_any w1 nn hn1).mono ?_
  rintro e w2 ⟨b0, c0, rfl, hcap0, href0, hge0, hb0⟩
  have HO0 := Lib.hid (newT_okay (α := Int) nn 0 hn0 hn1)
  have BT := Lib.hid (show Both tb W w2 tb (.slice none 0 0) (.slice none 0 0) (newT nn 0) b0 c0 (newR nn) from
    ⟨K0.out.below hb0, agree_new nn, Side.made K0.out.lies href0 hge0 hcap0, Nat.zero_le _⟩)
  simp only [id_eq]
  unfold refV
  clear hcap0 href0 hge0 hb0 K0
  go_wp2_with fail
  generalize hw3 : w2.alloc (.cells #[.slice (some ⟨b0, 0, none⟩) (newR nn).n c0, .int .i64 (newR nn).clk] 30) = w3
  obtain ⟨vb, hvb⟩ : ∃ y, w2.heap.size = y := ⟨_, rfl⟩
  have TV0 := Lib.hid (show TVar w3 vb b0 c0 (newR nn) by rw [← hvb, ← hw3]; exact heap_alloc_new w2 _)
  have BT3 := Lib.hid (BT.out.below (show Below w2.heap.size w2 w3 by rw [← hw3]; exact (Below.refl _ _).alloc (Nat.le_refl _) _))
  have NF0 := Lib.hid (show ¬ Foot tb (.slice none 0 0) (.slice none 0 0) vb from fun hf => by have := BT.out.held.lies.foot hf; omega)
  have NB0 := Lib.hid (show b0 ≠ vb from fun e => by have := BT.out.side.at_.lt; omega)
  have HVB := Lib.hid (show tb ≤ vb by rw [← hvb]; exact BT.out.held.hB)
  rw [hvb]
  clear hw3 hvb BT
  go_wp2_with fail
  go_loopg [12] N (fun g s12 wr => PlayRel nn tb W tb vb N g s12 wr)
  case atStart => exact ⟨0, _, _, newT nn 0, b0, c0, newR nn, Nat.zero_le _, rfl, rfl, BT3.out, rfl, Nat.le_refl _, TV0.out, NF0.out, NB0.out⟩
  case round =>
    obtain ⟨k, sv, fv, s, b, c1, r, hk, hg, rfl, hboth, hsn, hclk, htv, hnf, hnb⟩ := hrel
    have HG := Lib.hid hg
    have BT := Lib.hid hboth
    have HSN := Lib.hid hsn
    have HCL := Lib.hid hclk
    have TV := Lib.hid htv
    have NF := Lib.hid hnf
    have NB := Lib.hid hnb
    clear hg hboth hsn hclk htv hnf hnb BT3 TV0 NF0 NB0
    by_cases hlt : k < N
    · as_aux_lemma =>
        have y1 : (k : Int) < (len : Int) := by have := HNN.out; omega
        have y2 : (k : Int) < 60 := by omega
        obtain ⟨ab, off, hA0, hbl, hcell⟩ := HAT.out (by rw [HLEN.out]; omega)
        subst hA0
        obtain ⟨a, ha⟩ := ex_at (xs := l) (k := k) (by rw [HLEN.out]; omega)
        obtain ⟨hc0, hc1, hc2, hc3⟩ := (hcell k a ha).keep (BT.out.held.bel.mono (by rw [HTB.out]; exact Nat.le_refl _)) hbl
        obtain ⟨kind, id, ge, x⟩ := a
        simp only at hc0 hc1 hc2 hc3
        have HABL := Lib.hid (show ab < wr.heap.size from Nat.lt_of_lt_of_le (by rw [← HTB.out]; exact hbl) BT.out.held.hB)
        obtain ⟨d0, d1, df0, df1⟩ := TV.out.cells
        have HVL := Lib.hid (heap_lt TV.out)
        have HSTEP := Lib.hid (show ∀ w', Below wr.heap.size wr w' → Calls Try.prog 9 #[.pointer (some ⟨tb, 0, none⟩), .agg #[.slice (some ⟨b, 0, none⟩) r.n c1, .int .i64 r.clk], .agg #[.int .i64 kind, .int .i64 id, .int .i64 ge, .int .i64 x]] w' (StepPost tb W w' tb sv fv s.n r.clk) from fun w' hb => by
          have := step_any tb W w' tb sv fv s b c1 r kind id ge x (BT.out.below hb) (by have := HCL.out; omega)
          unfold refV at this
          exact this)
        obtain ⟨rn, hrn⟩ : ∃ y, r.n = y := ⟨_, rfl⟩
        obtain ⟨clk, hck⟩ : ∃ y, r.clk = y := ⟨_, rfl⟩
        rw [hrn, hck] at HSTEP
        rw [hrn] at d0
        rw [hck] at d1
        have HCLK := Lib.hid (show clk ≤ k by rw [← hck]; exact HCL.out)
        clear hcell ha hrn hck
        go_upto_region 10 with fail
        go_cut [13, 14] from 59 to 68 (fun s13 s14 wx => ∃ nb : Nat, s13 = .pointer (some ⟨nb, 0, none⟩) ∧ s14 = .bool true ∧ MidRel nn tb W tb vb nb k wx)
        case first =>
          as_aux_lemma =>
            have HS2 := Lib.hid (show wr.drew.cell? ⟨vb, 0, none⟩ = some (.slice (some ⟨b, 0, none⟩) rn c1) ∧ wr.drew.cell? ⟨vb, 1, none⟩ = some (.int .i64 clk) ∧ wr.drew.cell? ⟨ab, off + k * 4, none⟩ = some (.int .i64 kind) ∧ wr.drew.cell? ⟨ab, off + k * 4 + 1, none⟩ = some (.int .i64 id) ∧ wr.drew.cell? ⟨ab, off + k * 4 + 2, none⟩ = some (.int .i64 ge) ∧ wr.drew.cell? ⟨ab, off + k * 4 + 3, none⟩ = some (.int .i64 x) from ⟨d0, d1, hc0, hc1, hc2, hc3⟩)
            have HDR := Lib.hid (show Below wr.heap.size wr wr.drew from below_drewN (Below.refl _ _) 1)
            refine wp_region_N (S1 := fun _ => True) (S2 := fun wX => wX.cell? ⟨vb, 0, none⟩ = some (.slice (some ⟨b, 0, none⟩) rn c1) ∧ wX.cell? ⟨vb, 1, none⟩ = some (.int .i64 clk) ∧ wX.cell? ⟨ab, off + k * 4, none⟩ = some (.int .i64 kind) ∧ wX.cell? ⟨ab, off + k * 4 + 1, none⟩ = some (.int .i64 id) ∧ wX.cell? ⟨ab, off + k * 4 + 2, none⟩ = some (.int .i64 ge) ∧ wX.cell? ⟨ab, off + k * 4 + 3, none⟩ = some (.int .i64 x)) (N := fun i => !(i == 6 || i == 11)) (by kernel_rfl) ?_
            change wpAnyN _ _ _ _ _ _ _ 13 (Array.replicate 13 false) _ _
            refine wpAnyN_take false (i := 0) (v := .pointer (some ⟨tb, 0, none⟩)) rfl (by kernel_rfl) (by kernel_rfl) (by kernel_rfl) (fun _ _ _ h => h) (.inl ⟨by kernel_rfl, fun W hS => ?_⟩) ⟨trivial, fun h => by cases h⟩ ?_
            · simp [execOp, Act.eval, go_sem]
            refine wpAnyN_take true (i := 1) (v := .agg #[.slice (some ⟨b, 0, none⟩) rn c1, .int .i64 clk]) rfl (by kernel_rfl) (by kernel_rfl) (by kernel_rfl) (fun _ _ _ h => h) (.inl ⟨by kernel_rfl, fun W hS => ?_⟩) ⟨trivial, fun _ => HS2.out⟩ ?_
            · simp [execOp, Act.eval, Act.put, go_sem, (hS.2 rfl).1, (hS.2 rfl).2.1]
            refine wpAnyN_take false (i := 2) (v := .slice (some ⟨ab, off, none⟩) len c) rfl (by kernel_rfl) (by kernel_rfl) (by kernel_rfl) (fun _ _ _ h => h) (.inl ⟨by kernel_rfl, fun W hS => ?_⟩) ⟨trivial, fun h => by cases h⟩ ?_
            · simp [execOp, Act.eval, Act.put, go_sem]
            refine wpAnyN_take false (i := 3) (v := .int .i64 k) rfl (by kernel_rfl) (by kernel_rfl) (by kernel_rfl) (fun _ _ _ h => h) (.inl ⟨by kernel_rfl, fun W hS => ?_⟩) ⟨trivial, fun h => by cases h⟩ ?_
            · simp [execOp, Act.eval, Act.put, go_sem]
            refine wpAnyN_take false (i := 4) (v := .pointer (some ⟨ab, off + k * 4, none⟩)) rfl (by kernel_rfl) (by kernel_rfl) (by kernel_rfl) (fun _ _ _ h => h) (.inl ⟨by kernel_rfl, fun W hS => ?_⟩) ⟨trivial, fun h => by cases h⟩ ?_
            · simp [execOp, Act.eval, Act.put, go_sem, y1]
            refine wpAnyN_take true (i := 5) (v := .agg #[.int .i64 kind, .int .i64 id, .int .i64 ge, .int .i64 x]) rfl (by kernel_rfl) (by kernel_rfl) (by kernel_rfl) (fun _ _ _ h => h) (.inl ⟨by kernel_rfl, fun W hS => ?_⟩) ⟨trivial, fun _ => HS2.out⟩ ?_
            · simp [execOp, Act.eval, Act.put, go_sem, (hS.2 rfl).2.2.1, (hS.2 rfl).2.2.2.1, (hS.2 rfl).2.2.2.2.1, (hS.2 rfl).2.2.2.2.2]
            refine wpAnyN_two (i := 6) (j := 10) (by kernel_rfl) rfl rfl (by kernel_rfl) (by kernel_rfl) ?_ ?_
            · intro K' hK
              try simp only [Act.put]
              go_simp
              refine (HSTEP.out _ HDR.out).mono ?_
              rintro e w5 ⟨sv5, fv5, s5, b5, c5, r5, rfl, hbo, hsn5, hclk5, hap5, hg1, hg2⟩
              unfold refV
              have hv5 := (hap5.block vb (HVL.out) NF.out).trans TV.out
              have HNF5 := Lib.hid (show ¬ Foot tb sv5 fv5 vb from fun hf => NF.out (foot_grew (w := wr.drew) hg1 hg2 (HVL.out) hf))
              have HNB5 := Lib.hid (ne_of_kinds hbo.side.at_ hbo.few.n0 hv5)
              have BT5 := Lib.hid hbo
              have HSN5 := Lib.hid (hsn5.trans HSN.out)
              have HCL5 := Lib.hid (show r5.clk ≤ k + 1 by have := HCLK.out; omega)
              have HV5 := Lib.hid hv5
              clear hbo hsn5 hclk5 hap5 hg1 hg2 hv5
              refine hK.out _ _ trivial (fun h => absurd h (by decide)) ?_
              refine wpAnyN_take false (i := 7) (v := .tuple #[.agg #[.slice (some ⟨b5, 0, none⟩) r5.n c5, .int .i64 r5.clk], .bool true]) rfl (by kernel_rfl) (by kernel_rfl) (by kernel_rfl) (fun _ _ _ h => h) (.inl ⟨by kernel_rfl, fun W hS => ?_⟩) ⟨trivial, fun h => by cases h⟩ ?_
              · simp [execOp, Act.eval, go_sem]
              refine wpAnyN_take false (i := 8) (v := .agg #[.slice (some ⟨b5, 0, none⟩) r5.n c5, .int .i64 r5.clk]) rfl (by kernel_rfl) (by kernel_rfl) (by kernel_rfl) (fun _ _ _ h => h) (.inl ⟨by kernel_rfl, fun W hS => ?_⟩) ⟨trivial, fun h => by cases h⟩ ?_
              · simp [execOp, Act.eval, Act.put, go_sem]
              refine wpAnyN_take false (i := 9) (v := .bool true) rfl (by kernel_rfl) (by kernel_rfl) (by kernel_rfl) (fun _ _ _ h => h) (.inl ⟨by kernel_rfl, fun W hS => ?_⟩) ⟨trivial, fun h => by cases h⟩ ?_
              · simp [execOp, Act.eval, Act.put, go_sem]
              refine wpAnyN_step (i := 10) (by kernel_rfl) rfl (by kernel_rfl) ?_
              intro K' hK
              try simp only [Act.put]
              go_simp
              refine hK.out _ _ trivial (fun _ h => ?_) ?_
              · exact s2_alloc h
              refine wpAnyN_step (i := 11) (by kernel_rfl) rfl (by kernel_rfl) ?_
              intro K' hK
              try simp only [Act.put]
              go_simp
              refine hK.out _ _ trivial (fun h => absurd h (by decide)) ?_
              refine wpAnyN_take false (i := 12) (v := .bool true) rfl (by kernel_rfl) (by kernel_rfl) (by kernel_rfl) (fun _ _ _ h => h) (.inl ⟨by kernel_rfl, fun W hS => ?_⟩) ⟨trivial, fun h => by cases h⟩ ?_
              · simp [execOp, Act.eval, go_sem]
              refine wpAnyN_done (by kernel_rfl) ?_
              try simp only [Act.put]
              try go_simp
              go_wp2_with fail
              go_meet
              case rel => exact ⟨w5.heap.size, rfl, rfl, sv5, fv5, s5, b5, c5, r5, BT5.out.below (show Below w5.heap.size w5 (w5.alloc (.cells #[.slice (some ⟨b5, 0, none⟩) r5.n c5, .int .i64 r5.clk] 30)) from (Below.refl _ _).alloc (Nat.le_refl _) _), HSN5.out, HCL5.out, heap_alloc_new w5 _, ⟨_, _, ((show Below w5.heap.size w5 (w5.alloc (.cells #[.slice (some ⟨b5, 0, none⟩) r5.n c5, .int .i64 r5.clk] 30)) from (Below.refl _ _).alloc (Nat.le_refl _) _).block vb (heap_lt HV5.out)).trans HV5.out⟩, HNF5.out, HNB5.out⟩
            · intro K' hK
              try simp only [Act.put]
              go_simp
              refine hK.out _ _ trivial (fun _ h => ?_) ?_
              · exact s2_alloc h
              have HDA := Lib.hid (show Below wr.heap.size wr (wr.alloc (.cells #[.slice none 0 0, .int .i64 0] 30)).drew from below_drewN ((Below.refl _ _).alloc (Nat.le_refl _) _) 1)
              have hnw : (wr.alloc (.cells #[.slice none 0 0, .int .i64 0] 30)).drew.heap[wr.heap.size]? = some (.cells #[.slice none 0 0, .int .i64 0] 30 (0, 0)) := heap_alloc_new wr _
              obtain ⟨nb, hnb⟩ : ∃ y, wr.heap.size = y := ⟨_, rfl⟩
              have HNFN := Lib.hid (show ¬ Foot tb sv fv nb from fun hf => by have := BT.out.held.lies.foot hf; omega)
              have HTBN := Lib.hid (show tb ≤ nb from by rw [← hnb]; exact BT.out.held.hB)
              have HVN := Lib.hid (show vb ≠ nb from fun e => by have := HVL.out; omega)
              have HNBE := Lib.hid hnb
              rw [hnb] at hnw ⊢
              generalize hwa : (wr.alloc (.cells #[.slice none 0 0, .int .i64 0] 30)).drew = wa at *
              have HNW := Lib.hid hnw
              clear hwa hnb hnw
              refine wpAnyN_step (i := 6) (by kernel_rfl) rfl (by kernel_rfl) ?_
              intro K' hK
              try simp only [Act.put]
              go_simp
              refine (HSTEP.out _ HDA.out).mono ?_
              rintro e w5 ⟨sv5, fv5, s5, b5, c5, r5, rfl, hbo, hsn5, hclk5, hap5, hg1, hg2⟩
              unfold refV
              have hv5 := (hap5.block vb (Nat.lt_of_lt_of_le HVL.out HDA.out.size) NF.out).trans ((HDA.out.block vb HVL.out).trans TV.out)
              have HNF5 := Lib.hid (show ¬ Foot tb sv5 fv5 vb from fun hf => NF.out (foot_grew (w := wa) hg1 hg2 (Nat.lt_of_lt_of_le HVL.out HDA.out.size) hf))
              have HNB5 := Lib.hid (ne_of_kinds hbo.side.at_ hbo.few.n0 hv5)
              have BT5 := Lib.hid hbo
              have HSN5 := Lib.hid (hsn5.trans HSN.out)
              have HCL5 := Lib.hid (show r5.clk ≤ k + 1 by have := HCLK.out; omega)
              have HV5 := Lib.hid hv5
              have hn5 := (hap5.block nb (heap_lt HNW.out) HNFN.out).trans HNW.out
              have HN5 := Lib.hid hn5
              have HNF6 := Lib.hid (show ¬ Foot tb sv5 fv5 nb from fun hf => HNFN.out (foot_grew (w := wa) hg1 hg2 (heap_lt HNW.out) hf))
              have HNB6 := Lib.hid (ne_of_kinds hbo.side.at_ hbo.few.n0 hn5)
              have o0 := cell_of hn5 0
              have o1 := cell_of hn5 1
              simp only [List.getElem?_toArray, List.getElem?_cons_zero, List.getElem?_cons_succ] at o0 o1
              have of0 := frozen_of hn5 0
              have of1 := frozen_of hn5 1
              clear hbo hsn5 hclk5 hap5 hg1 hg2 hv5 hn5
              refine hK.out _ _ trivial (fun h => absurd h (by decide)) ?_
              refine wpAnyN_take false (i := 7) (v := .tuple #[.agg #[.slice (some ⟨b5, 0, none⟩) r5.n c5, .int .i64 r5.clk], .bool true]) rfl (by kernel_rfl) (by kernel_rfl) (by kernel_rfl) (fun _ _ _ h => h) (.inl ⟨by kernel_rfl, fun W hS => ?_⟩) ⟨trivial, fun h => by cases h⟩ ?_
              · simp [execOp, Act.eval, go_sem]
              refine wpAnyN_take false (i := 8) (v := .agg #[.slice (some ⟨b5, 0, none⟩) r5.n c5, .int .i64 r5.clk]) rfl (by kernel_rfl) (by kernel_rfl) (by kernel_rfl) (fun _ _ _ h => h) (.inl ⟨by kernel_rfl, fun W hS => ?_⟩) ⟨trivial, fun h => by cases h⟩ ?_
              · simp [execOp, Act.eval, Act.put, go_sem]
              refine wpAnyN_take false (i := 9) (v := .bool true) rfl (by kernel_rfl) (by kernel_rfl) (by kernel_rfl) (fun _ _ _ h => h) (.inl ⟨by kernel_rfl, fun W hS => ?_⟩) ⟨trivial, fun h => by cases h⟩ ?_
              · simp [execOp, Act.eval, Act.put, go_sem]
              refine wpAnyN_step (i := 11) (by kernel_rfl) rfl (by kernel_rfl) ?_
              intro K' hK
              try simp only [Act.put]
              go_simp
              refine hK.out _ _ trivial (fun h => absurd h (by decide)) ?_
              refine wpAnyN_take false (i := 12) (v := .bool true) rfl (by kernel_rfl) (by kernel_rfl) (by kernel_rfl) (fun _ _ _ h => h) (.inl ⟨by kernel_rfl, fun W hS => ?_⟩) ⟨trivial, fun h => by cases h⟩ ?_
              · simp [execOp, Act.eval, go_sem]
              refine wpAnyN_done (by kernel_rfl) ?_
              try simp only [Act.put]
              try go_simp
              go_wp2_with fail
              go_meet
              case rel => exact ⟨nb, rfl, rfl, sv5, fv5, s5, b5, c5, r5, BT5.out.setv HNF6.out HNB6.out HTBN.out _ _, HSN5.out, HCL5.out, two_set HN5.out _ _, ⟨_, _, ((Below.heap_setCell _ _ _ _ HVN.out).trans (Below.heap_setCell _ _ _ _ HVN.out)).trans HV5.out⟩, HNF5.out, HNB5.out⟩
        case rest =>
          as_aux_lemma =>
            obtain ⟨nb, rfl, rfl, hmid⟩ := hcut
            obtain ⟨sv2, fv2, s2, b2, c2, r2, hbo, hsn2, hcl2, htn, hvx, hnf2, hnb2⟩ := hmid
            obtain ⟨u0, u1, hvx⟩ := hvx
            have BT2 := Lib.hid hbo
            have HSN2 := Lib.hid hsn2
            have HCL2 := Lib.hid hcl2
            have HNF2 := Lib.hid hnf2
            have HNB2 := Lib.hid hnb2
            have HVX := Lib.hid hvx
            obtain ⟨t0, t1, _, _⟩ := htn.cells
            have o0 := cell_of hvx 0
            have o1 := cell_of hvx 1
            simp only [List.getElem?_toArray, List.getElem?_cons_zero, List.getElem?_cons_succ] at o0 o1
            have of0 := frozen_of hvx 0
            have of1 := frozen_of hvx 1
            clear hbo hsn2 hcl2 htn hvx hnf2 hnb2 d0 d1 df0 df1 hc0 hc1 hc2 hc3 HSTEP
            obtain ⟨rn2, hrn⟩ : ∃ y, r2.n = y := ⟨_, rfl⟩
            obtain ⟨cl2, hcl⟩ : ∃ y, r2.clk = y := ⟨_, rfl⟩
            rw [hrn] at t0
            rw [hcl] at t1
            have HRN := Lib.hid hrn
            have HCLE := Lib.hid hcl
            clear hrn hcl
            go_upto_region 12 with fail
            generalize hw6 : (wc.setCell ⟨vb, 0, none⟩ (.slice (some ⟨b2, 0, none⟩) rn2 c2)).setCell ⟨vb, 1, none⟩ (.int .i64 cl2) = w6
            have BT6 := Lib.hid (show Both tb W w6 tb sv2 fv2 s2 b2 c2 r2 by rw [← hw6]; exact BT2.out.setv HNF2.out HNB2.out HVB.out _ _)
            have TV6 := Lib.hid (show TVar w6 vb b2 c2 r2 by unfold TVar; rw [← hw6, HRN.out, HCLE.out]; exact two_set HVX.out _ _)
            clear hw6 t0 t1 o0 o1 of0 of1
            obtain ⟨t0, t1, _, _⟩ := TV6.out.cells
            rw [HRN.out] at t0
            rw [HCLE.out] at t1
            have hvl := heap_lt TV6.out
            have Ct0 := Lib.hid (show ∀ w', Below w6.heap.size w6 w' → w'.cell? ⟨vb, 0, none⟩ = some (.slice (some ⟨b2, 0, none⟩) rn2 c2) from fun w' hB => (hB.cell (p := ⟨vb, 0, none⟩) hvl).trans t0)
            have Ct1 := Lib.hid (show ∀ w', Below w6.heap.size w6 w' → w'.cell? ⟨vb, 1, none⟩ = some (.int .i64 cl2) from fun w' hB => (hB.cell (p := ⟨vb, 1, none⟩) hvl).trans t1)
            have HDR := Lib.hid (show Below w6.heap.size w6 w6.drew from below_drewN (Below.refl _ _) 1)
            obtain ⟨dd, hdd⟩ : ∃ y, cntU s2.use s2.m = y := ⟨_, rfl⟩
            have HDD := Lib.hid hdd
            have HMB := Lib.hid (show s2.m ≤ 1024 by have := BT6.out.held.ok.mn; have := BT6.out.held.ok.n1; omega)
            have HIDS := Lib.hid (show ∀ w', Both tb W w' tb sv2 fv2 s2 b2 c2 r2 → Calls Try.prog 12 #[.agg #[.slice (some ⟨b2, 0, none⟩) rn2 c2, .int .i64 cl2]] w' (RetL (idsI s2.use s2.m) w') from fun w' hb => by
              have := refIds_any w' b2 c2 r2 hb.side.at_ hb.few
              unfold refV at this
              rw [HRN.out, HCLE.out, ← HRN.out, idsI_same hb.agr hb.held.ok, HRN.out] at this
              exact this)
            clear hdd
            go_cut [87] from 70 to 87 (fun s87 wx => s87 = .bool false ∧ Below w6.heap.size w6 wx)
            case first =>
              as_aux_lemma =>
                refine wp_region_N (S1 := fun wX => Below w6.heap.size w6 wX) (S2 := fun _ => True) (N := fun _ => false) (by kernel_rfl) ?_
                change wpAnyN _ _ _ _ _ _ _ 18 (Array.replicate 18 false) _ _
                refine wpAnyN_take false (i := 0) (v := .bool true) rfl (by kernel_rfl) (by kernel_rfl) (by kernel_rfl) (fun _ _ _ h => h) (.inl ⟨by kernel_rfl, fun W hS => ?_⟩) ⟨HDR.out, fun h => by cases h⟩ ?_
                · simp [execOp, Act.eval, go_sem]
                refine wpAnyN_take false (i := 1) (v := .bool false) rfl (by kernel_rfl) (by kernel_rfl) (by kernel_rfl) (fun _ _ _ h => h) (.inl ⟨by kernel_rfl, fun W hS => ?_⟩) ⟨HDR.out, fun h => by cases h⟩ ?_
                · simp [execOp, Act.eval, Act.put, go_sem]
                refine wpAnyN_take false (i := 2) (v := .bool false) rfl (by kernel_rfl) (by kernel_rfl) (by kernel_rfl) (fun _ _ _ h => h) (.inl ⟨by kernel_rfl, fun W hS => ?_⟩) ⟨HDR.out, fun h => by cases h⟩ ?_
                · simp [execOp, Act.eval, Act.put, go_sem]
                refine wpAnyN_take false (i := 3) (v := .pointer (some ⟨tb, 0, none⟩)) rfl (by kernel_rfl) (by kernel_rfl) (by kernel_rfl) (fun _ _ _ h => h) (.inl ⟨by kernel_rfl, fun W hS => ?_⟩) ⟨HDR.out, fun h => by cases h⟩ ?_
                · simp [execOp, Act.eval, Act.put, go_sem]
                refine wpAnyN_take false (i := 5) (v := .agg #[.slice (some ⟨b2, 0, none⟩) rn2 c2, .int .i64 cl2]) rfl (by kernel_rfl) (by kernel_rfl) (by kernel_rfl) (fun _ _ _ h => h) (.inl ⟨by kernel_rfl, fun W hS => ?_⟩) ⟨HDR.out, fun h => by cases h⟩ ?_
                · simp [execOp, Act.eval, Act.put, go_sem, Ct0.out _ hS.1, Ct1.out _ hS.1]
                refine wpAnyN_step (i := 4) (by kernel_rfl) rfl (by kernel_rfl) ?_
                intro K' hK
                try simp only [Act.put]
                go_simp
                refine (ids_any _ tb sv2 fv2 s2 (BT6.out.below HDR.out).held.lies HMB.out).mono ?_
                rintro e w7 ⟨v1, rfl, hi1, hb7⟩
                have HS7 := Lib.hid (HDR.out.trans hb7)
                have I7 := Lib.hid hi1
                clear hi1 hb7
                refine hK.out _ _ HS7.out (fun h => absurd h (by decide)) ?_
                refine wpAnyN_step (i := 6) (by kernel_rfl) rfl (by kernel_rfl) ?_
                intro K' hK
                try simp only [Act.put]
                go_simp
                refine (HIDS.out _ (BT6.out.below HS7.out)).mono ?_
                rintro e w8 ⟨v2, rfl, hi2, hb8⟩
                have HS8 := Lib.hid (HS7.out.trans (hb8.mono HS7.out.size))
                have I8 := Lib.hid (I7.out.keep hb8)
                have J8 := Lib.hid hi2
                clear hi2 hb8
                refine hK.out _ _ HS8.out (fun h => absurd h (by decide)) ?_
                have HSAME := same_any _ _ v1 v2 w8 I8.out J8.out
                rw [decide_eq_true rfl] at HSAME
                have HSAME := Lib.hid HSAME
                refine wpAnyN_step (i := 7) (by kernel_rfl) rfl (by kernel_rfl) ?_
                intro K' hK
                try simp only [Act.put]
                go_simp
                refine HSAME.out.mono ?_
                rintro e w9 ⟨rfl, hb9⟩
                have HS9 := Lib.hid (HS8.out.trans (hb9.mono HS8.out.size))
                clear hb9
                refine hK.out _ _ HS9.out (fun h => absurd h (by decide)) ?_
                refine wpAnyN_take false (i := 8) (v := .bool false) rfl (by kernel_rfl) (by kernel_rfl) (by kernel_rfl) (fun _ _ _ h => h) (.inl ⟨by kernel_rfl, fun W hS => ?_⟩) ⟨HS9.out, fun h => by cases h⟩ ?_
                · simp [execOp, Act.eval, go_sem]
                refine wpAnyN_take false (i := 9) (v := .bool false) rfl (by kernel_rfl) (by kernel_rfl) (by kernel_rfl) (fun _ _ _ h => h) (.inl ⟨by kernel_rfl, fun W hS => ?_⟩) ⟨HS9.out, fun h => by cases h⟩ ?_
                · simp [execOp, Act.eval, Act.put, go_sem]
                refine wpAnyN_take false (i := 10) (v := .bool false) rfl (by kernel_rfl) (by kernel_rfl) (by kernel_rfl) (fun _ _ _ h => h) (.inl ⟨by kernel_rfl, fun W hS => ?_⟩) ⟨HS9.out, fun h => by cases h⟩ ?_
                · simp [execOp, Act.eval, Act.put, go_sem]
                refine wpAnyN_take false (i := 11) (v := .pointer (some ⟨tb, 0, none⟩)) rfl (by kernel_rfl) (by kernel_rfl) (by kernel_rfl) (fun _ _ _ h => h) (.inl ⟨by kernel_rfl, fun W hS => ?_⟩) ⟨HS9.out, fun h => by cases h⟩ ?_
                · simp [execOp, Act.eval, Act.put, go_sem]
                refine wpAnyN_take false (i := 13) (v := .agg #[.slice (some ⟨b2, 0, none⟩) rn2 c2, .int .i64 cl2]) rfl (by kernel_rfl) (by kernel_rfl) (by kernel_rfl) (fun _ _ _ h => h) (.inl ⟨by kernel_rfl, fun W hS => ?_⟩) ⟨HS9.out, fun h => by cases h⟩ ?_
                · simp [execOp, Act.eval, Act.put, go_sem, Ct0.out _ hS.1, Ct1.out _ hS.1]
                refine wpAnyN_step (i := 12) (by kernel_rfl) rfl (by kernel_rfl) ?_
                intro K' hK
                try simp only [Act.put]
                go_simp
                refine (len_any _ tb sv2 fv2 s2 (BT6.out.below HS9.out).held.lies HMB.out dd (by rw [← HDD.out]; exact BT6.out.held.ok.cnt)).mono ?_
                rintro e w10 ⟨rfl, hb10⟩
                have HS10 := Lib.hid (HS9.out.trans (hb10.mono HS9.out.size))
                clear hb10
                refine hK.out _ _ HS10.out (fun h => absurd h (by decide)) ?_
                refine wpAnyN_step (i := 14) (by kernel_rfl) rfl (by kernel_rfl) ?_
                intro K' hK
                try simp only [Act.put]
                go_simp
                refine (HIDS.out _ (BT6.out.below HS10.out)).mono ?_
                rintro e w11 ⟨v3, rfl, hi3, hb11⟩
                obtain ⟨A3, cc3, rfl, _, _⟩ := hi3
                rw [idsI_length, HDD.out]
                have HS11 := Lib.hid (HS10.out.trans (hb11.mono HS10.out.size))
                clear hb11
                refine hK.out _ _ HS11.out (fun h => absurd h (by decide)) ?_
                refine wpAnyN_take false (i := 15) (v := .int .i64 dd) rfl (by kernel_rfl) (by kernel_rfl) (by kernel_rfl) (fun _ _ _ h => h) (.inl ⟨by kernel_rfl, fun W hS => ?_⟩) ⟨HS11.out, fun h => by cases h⟩ ?_
                · simp [execOp, Act.eval, go_sem]
                refine wpAnyN_take false (i := 16) (v := .bool false) rfl (by kernel_rfl) (by kernel_rfl) (by kernel_rfl) (fun _ _ _ h => h) (.inl ⟨by kernel_rfl, fun W hS => ?_⟩) ⟨HS11.out, fun h => by cases h⟩ ?_
                · simp [execOp, Act.eval, Act.put, go_sem]
                refine wpAnyN_take false (i := 17) (v := .bool false) rfl (by kernel_rfl) (by kernel_rfl) (by kernel_rfl) (fun _ _ _ h => h) (.inl ⟨by kernel_rfl, fun W hS => ?_⟩) ⟨HS11.out, fun h => by cases h⟩ ?_
                · simp [execOp, Act.eval, Act.put, go_sem]
                refine wpAnyN_done (by kernel_rfl) ?_
                try simp only [Act.put]
                try go_simp
                go_wp2_with fail
                go_meet
                case rel => exact ⟨rfl, HS11.out⟩
            case rest =>
              obtain ⟨rfl, hb12⟩ := hcut
              have BT7 := Lib.hid (BT6.out.below hb12)
              have TV7 := Lib.hid (TV6.out.below hb12)
              clear hb12 Ct0 Ct1 HIDS HDR t0 t1 hvl
              have hfi := find_any wc tb sv2 fv2 s2 ask BT7.out.held.lies HMB.out
              have HGET := Lib.hid (fun w' (hb : Both tb W w' tb sv2 fv2 s2 b2 c2 r2) => get_any w' tb sv2 fv2 s2 ask gen hb.held.lies HMB.out)
              have HHAS := Lib.hid (show ∀ w', Both tb W w' tb sv2 fv2 s2 b2 c2 r2 → Calls Try.prog 16 #[.agg #[.slice (some ⟨b2, 0, none⟩) rn2 c2, .int .i64 cl2], .int .i64 ask] w' (RetB (.bool (inU s2 ask)) w') from fun w' hb => by
                have hh := hasR_any w' b2 c2 r2 ask hb.side.at_ hb.few.n1
                rw [hasR_eq hb.held.ok hb.agr] at hh
                unfold refV at hh
                rw [HRN.out, HCLE.out] at hh
                exact hh)
              unfold findV at hfi
              by_cases hu : inU s2 ask = true
              · obtain ⟨i, hid, hi, hui⟩ := inU_some hu
                have hgi : ask.toNat - 1 = i := by omega
                have HGI := Lib.hid hgi
                have HHU := Lib.hid hu
                rw [if_pos hu, hgi] at hfi
                have hir : i < r2.n := by rw [BT7.out.agr.n]; have := BT7.out.held.ok.mn; omega
                have HIR := Lib.hid hir
                have hx := BT7.out.agr.x i hi hui
                have hgg := BT7.out.agr.gen i hi
                obtain ⟨xv, hxv⟩ : ∃ y, s2.x i = y := ⟨_, rfl⟩
                obtain ⟨gq, hgq⟩ : ∃ y, s2.gen i = y := ⟨_, rfl⟩
                obtain ⟨tv, htv⟩ : ∃ y, r2.tk i = y := ⟨_, rfl⟩
                obtain ⟨fd, hfd⟩ : ∃ y, r2.fd i = y := ⟨_, rfl⟩
                obtain ⟨wh, hwh⟩ : ∃ y, r2.wh i = y := ⟨_, rfl⟩
                rw [hxv] at hx hfi
                rw [hgq] at hgg hfi
                rw [hfd] at hgg
                have bfd := BT7.out.few.fd i hir
                rw [hfd] at bfd
                have hn1 := BT7.out.few.n1
                have HGEN := Lib.hid (show ∀ w', Calls Try.prog 17 #[.agg #[.int .i64 xv, .bool tv, .int .i64 fd, .int .i64 wh]] w' (RetB (.int .i64 gq) w') from fun w' => by
                  rw [hgg]
                  exact gen_any w' xv tv fd wh bfd)
                have HXV := Lib.hid hxv
                have HGQ := Lib.hid hgq
                have HX := Lib.hid hx
                have HTV := Lib.hid htv
                have HFD := Lib.hid hfd
                have HWH := Lib.hid hwh
                have y3 : ask - 1 = (i : Int) := by omega
                have y5 : (i : Int) < (rn2 : Int) := by rw [← HRN.out]; exact Int.ofNat_lt.2 hir
                have y4 : wrap64 (i : Int) = (i : Int) := wrap64_nat (by omega)
                clear hid hi hui hgi hir hx hgg hxv hgq htv hfd hwh bfd hn1 hu
                by_cases hge : (gq : Int) = gen
                · as_aux_lemma =>
                    have HE := Lib.hid hge
                    have e1 : (gen == (gq : Int)) = true := by simpa using hge.symm
                    have e2 : ((gq : Int) == gen) = true := by simpa using hge
                    clear hge
                    have HFI := Lib.hid hfi
                    clear hfi
                    go_wp2_with fail
                    refine HFI.out.mono ?_
                    rintro e w12 ⟨rfl, h12⟩
                    have BT8 := Lib.hid (BT7.out.below h12)
                    have TV8 := Lib.hid (TV7.out.below h12)
                    clear h12
                    have hge1 := HGET.out w12 BT8.out
                    unfold getV at hge1
                    rw [if_pos ⟨HHU.out, by rw [HGI.out, HGQ.out]; exact HE.out⟩, HGI.out, HXV.out] at hge1
                    have HGE1 := Lib.hid hge1
                    clear hge1
                    go_wp2_with fail
                    refine HGE1.out.mono ?_
                    rintro e w13 ⟨rfl, h13⟩
                    have BT9 := Lib.hid (BT8.out.below h13)
                    have TV9 := Lib.hid (TV8.out.below h13)
                    clear h13
                    obtain ⟨t0, t1, _, _⟩ := TV9.out.cells
                    rw [HRN.out] at t0
                    rw [HCLE.out] at t1
                    go_wp2_with fail
                    refine (HHAS.out w13 BT9.out).mono ?_
                    rintro e w14 ⟨rfl, h14⟩
                    have BTA := Lib.hid (BT9.out.below h14)
                    have TVA := Lib.hid (TV9.out.below h14)
                    clear h14 t0 t1
                    rw [HHU.out]
                    obtain ⟨t0, t1, _, _⟩ := TVA.out.cells
                    rw [HRN.out] at t0
                    rw [HCLE.out] at t1
                    obtain ⟨k0, k1, k2, k3⟩ := BTA.out.side.at_.at_ i HIR.out
                    rw [HX.out] at k0
                    rw [HTV.out] at k1
                    rw [HFD.out] at k2
                    rw [HWH.out] at k3
                    go_wp2_with fail
                    generalize hwb : w14.alloc (.cells #[.int .i64 xv, .bool tv, .int .i64 fd, .int .i64 wh] 47) = wb
                    have HWB := Lib.hid (show Below w14.heap.size w14 wb by rw [← hwb]; exact (Below.refl _ _).alloc (Nat.le_refl _) _)
                    have q0 : wb.cell? ⟨w14.heap.size, 0, none⟩ = some (.int .i64 xv) := by rw [← hwb, World.cell?_alloc_new]; rfl
                    have q1 : wb.cell? ⟨w14.heap.size, 1, none⟩ = some (.bool tv) := by rw [← hwb, World.cell?_alloc_new]; rfl
                    have q2 : wb.cell? ⟨w14.heap.size, 2, none⟩ = some (.int .i64 fd) := by rw [← hwb, World.cell?_alloc_new]; rfl
                    have q3 : wb.cell? ⟨w14.heap.size, 3, none⟩ = some (.int .i64 wh) := by rw [← hwb, World.cell?_alloc_new]; rfl
                    have ql : w14.heap.size < wb.heap.size := by rw [← hwb, World.size_alloc]; omega
                    have BTB := Lib.hid (BTA.out.below HWB.out)
                    have TVB := Lib.hid (TVA.out.below HWB.out)
                    clear hwb t0 t1 k0 k1 k2 k3
                    refine (HGEN.out wb).mono ?_
                    rintro e w15 ⟨rfl, h15⟩
                    have BTC := Lib.hid (BTB.out.below h15)
                    have TVC := Lib.hid (TVB.out.below h15)
                    have q0 := (h15.cell (p := ⟨w14.heap.size, 0, none⟩) ql).trans q0
                    have q1 := (h15.cell (p := ⟨w14.heap.size, 1, none⟩) ql).trans q1
                    have q2 := (h15.cell (p := ⟨w14.heap.size, 2, none⟩) ql).trans q2
                    have q3 := (h15.cell (p := ⟨w14.heap.size, 3, none⟩) ql).trans q3
                    have ql := Nat.lt_of_lt_of_le ql h15.size
                    clear h15
                    go_wp2_with fail
                    refine (HGEN.out w15).mono ?_
                    rintro e w16 ⟨rfl, h16⟩
                    have BTD := Lib.hid (BTC.out.below h16)
                    have TVD := Lib.hid (TVC.out.below h16)
                    have q0 := (h16.cell (p := ⟨w14.heap.size, 0, none⟩) ql).trans q0
                    clear h16
                    go_wp2_with fail
                    go_roundg (N - (k + 1))
                    case measure => have := HG.out; omega
                    case rel => exact ⟨k + 1, sv2, fv2, s2, b2, c2, r2, by omega, rfl, by go_num, BTD.out, HSN2.out, HCL2.out, TVD.out, HNF2.out, HNB2.out⟩
                · as_aux_lemma =>
                    have HE := Lib.hid hge
                    have e1 : (gen == (gq : Int)) = false := by simpa using fun e => hge e.symm
                    have e2 : ((gq : Int) == gen) = false := by simpa using hge
                    clear hge
                    have HFI := Lib.hid hfi
                    clear hfi
                    go_wp2_with fail
                    refine HFI.out.mono ?_
                    rintro e w12 ⟨rfl, h12⟩
                    have BT8 := Lib.hid (BT7.out.below h12)
                    have TV8 := Lib.hid (TV7.out.below h12)
                    clear h12
                    have hge1 := HGET.out w12 BT8.out
                    unfold getV at hge1
                    rw [if_neg (fun h => HE.out (by have := h.2; rw [HGI.out, HGQ.out] at this; exact this))] at hge1
                    have HGE1 := Lib.hid hge1
                    clear hge1
                    go_wp2_with fail
                    refine HGE1.out.mono ?_
                    rintro e w13 ⟨rfl, h13⟩
                    simp only [getNone]
                    have BT9 := Lib.hid (BT8.out.below h13)
                    have TV9 := Lib.hid (TV8.out.below h13)
                    clear h13
                    obtain ⟨t0, t1, _, _⟩ := TV9.out.cells
                    rw [HRN.out] at t0
                    rw [HCLE.out] at t1
                    go_wp2_with fail
                    refine (HHAS.out w13 BT9.out).mono ?_
                    rintro e w14 ⟨rfl, h14⟩
                    have BTA := Lib.hid (BT9.out.below h14)
                    have TVA := Lib.hid (TV9.out.below h14)
                    clear h14 t0 t1
                    rw [HHU.out]
                    obtain ⟨t0, t1, _, _⟩ := TVA.out.cells
                    rw [HRN.out] at t0
                    rw [HCLE.out] at t1
                    obtain ⟨k0, k1, k2, k3⟩ := BTA.out.side.at_.at_ i HIR.out
                    rw [HX.out] at k0
                    rw [HTV.out] at k1
                    rw [HFD.out] at k2
                    rw [HWH.out] at k3
                    go_wp2_with fail
                    generalize hwb : w14.alloc (.cells #[.int .i64 xv, .bool tv, .int .i64 fd, .int .i64 wh] 47) = wb
                    have HWB := Lib.hid (show Below w14.heap.size w14 wb by rw [← hwb]; exact (Below.refl _ _).alloc (Nat.le_refl _) _)
                    have q0 : wb.cell? ⟨w14.heap.size, 0, none⟩ = some (.int .i64 xv) := by rw [← hwb, World.cell?_alloc_new]; rfl
                    have q1 : wb.cell? ⟨w14.heap.size, 1, none⟩ = some (.bool tv) := by rw [← hwb, World.cell?_alloc_new]; rfl
                    have q2 : wb.cell? ⟨w14.heap.size, 2, none⟩ = some (.int .i64 fd) := by rw [← hwb, World.cell?_alloc_new]; rfl
                    have q3 : wb.cell? ⟨w14.heap.size, 3, none⟩ = some (.int .i64 wh) := by rw [← hwb, World.cell?_alloc_new]; rfl
                    have ql : w14.heap.size < wb.heap.size := by rw [← hwb, World.size_alloc]; omega
                    have BTB := Lib.hid (BTA.out.below HWB.out)
                    have TVB := Lib.hid (TVA.out.below HWB.out)
                    clear hwb t0 t1 k0 k1 k2 k3
                    refine (HGEN.out wb).mono ?_
                    rintro e w15 ⟨rfl, h15⟩
                    have BTC := Lib.hid (BTB.out.below h15)
                    have TVC := Lib.hid (TVB.out.below h15)
                    have q0 := (h15.cell (p := ⟨w14.heap.size, 0, none⟩) ql).trans q0
                    have q1 := (h15.cell (p := ⟨w14.heap.size, 1, none⟩) ql).trans q1
                    have q2 := (h15.cell (p := ⟨w14.heap.size, 2, none⟩) ql).trans q2
                    have q3 := (h15.cell (p := ⟨w14.heap.size, 3, none⟩) ql).trans q3
                    have ql := Nat.lt_of_lt_of_le ql h15.size
                    clear h15
                    go_wp2_with fail
                    refine (HGEN.out w15).mono ?_
                    rintro e w16 ⟨rfl, h16⟩
                    have BTD := Lib.hid (BTC.out.below h16)
                    have TVD := Lib.hid (TVC.out.below h16)
                    have q0 := (h16.cell (p := ⟨w14.heap.size, 0, none⟩) ql).trans q0
                    clear h16
                    go_wp2_with fail
                    go_roundg (N - (k + 1))
                    case measure => have := HG.out; omega
                    case rel => exact ⟨k + 1, sv2, fv2, s2, b2, c2, r2, by omega, rfl, by go_num, BTD.out, HSN2.out, HCL2.out, TVD.out, HNF2.out, HNB2.out⟩
              · as_aux_lemma =>
                  rw [if_neg hu] at hfi
                  have hu' : inU s2 ask = false := by simpa using hu
                  have HHU := Lib.hid hu'
                  have HFI := Lib.hid hfi
                  clear hfi
                  go_wp2_with fail
                  refine HFI.out.mono ?_
                  rintro e w12 ⟨rfl, h12⟩
                  simp only [findNone]
                  have BT8 := Lib.hid (BT7.out.below h12)
                  have TV8 := Lib.hid (TV7.out.below h12)
                  clear h12
                  have hge1 := HGET.out w12 BT8.out
                  unfold getV at hge1
                  rw [if_neg (fun h => by rw [HHU.out] at h; cases h.1)] at hge1
                  have HGE1 := Lib.hid hge1
                  clear hge1
                  go_wp2_with fail
                  refine HGE1.out.mono ?_
                  rintro e w13 ⟨rfl, h13⟩
                  simp only [getNone]
                  have BT9 := Lib.hid (BT8.out.below h13)
                  have TV9 := Lib.hid (TV8.out.below h13)
                  clear h13
                  obtain ⟨t0, t1, _, _⟩ := TV9.out.cells
                  rw [HRN.out] at t0
                  rw [HCLE.out] at t1
                  go_wp2_with fail
                  refine (HHAS.out w13 BT9.out).mono ?_
                  rintro e w14 ⟨rfl, h14⟩
                  have BTA := Lib.hid (BT9.out.below h14)
                  have TVA := Lib.hid (TV9.out.below h14)
                  clear h14 t0 t1
                  rw [HHU.out]
                  go_wp2_with fail
                  go_roundg (N - (k + 1))
                  case measure => have := HG.out; omega
                  case rel => exact ⟨k + 1, sv2, fv2, s2, b2, c2, r2, by omega, rfl, by go_num, BTA.out, HSN2.out, HCL2.out, TVA.out, HNF2.out, HNB2.out⟩
    · have hk2 : k = N := by omega
      have y1 : (len : Int) ≤ (k : Int) ∨ (60 : Int) ≤ (k : Int) := by have := HNN.out; omega
      by_cases y2 : (k : Int) < (len : Int)
      · have y3 : decide ((k : Int) < 60) = false := decide_eq_false (by omega)
        have y4 : ¬ (k : Int) < 60 := by omega
        clear y1
        go_wp2_with fail
        refine (awake_any wr).mono ?_
        rintro e w4 ⟨rfl, h4⟩
        go_wp2_with fail
        go_ret
        exact ⟨rfl, by rw [HTB.out]; exact (BT.out.below h4).held.bel⟩
      · have y3 : decide ((k : Int) < (len : Int)) = false := decide_eq_false y2
        clear y1
        go_wp2_with fail
        refine (awake_any wr).mono ?_
        rintro e w4 ⟨rfl, h4⟩
        go_wp2_with fail
        go_ret
        exact ⟨rfl, by rw [HTB.out]; exact (BT.out.below h4).held.bel⟩

theorem play_law (n ask gen : Int) (v : Value) (l : List ActH) (W : World) (h : ActsAt W v l) : Calls Try.prog 3 #[.int .i64 n, v, .int .i64 ask, .int .i64 gen] W (Ans W) := by
  by_cases hn : n < 1 ∨ 1024 < n
  · exact play_bad n ask gen v W hn
  · obtain ⟨nn, rfl⟩ : ∃ m : Nat, n = m := ⟨n.toNat, by omega⟩
    exact play_good nn ask gen v l W h (by omega) (by omega)
end Go.Proofs.Ytgpbgakijjdkoaa
