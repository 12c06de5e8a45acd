/-
  Whatever calls are put to a ring, it tells what the document's ring tells.
  Conditions: none beyond the argument's own reading.
-/
import Derived.Test.YtanchjcifhbllaaStep
set_option linter.unusedVariables false
set_option linter.unusedSimpArgs false
namespace Go.Proofs.Ytanchjcifhbllaa
open Go.RowKit

set_option maxRecDepth 100000 in
set_option maxHeartbeats 8000000 in
theorem plays_law (limit : Int) (v : Value) (acts : List ActH) (W : World) (hA : ActsAt W v acts) (hok : ∀ a ∈ acts, ActOk a) : Calls Try.prog 3 #[.int .i64 limit, v] W (RetB (.bool true) W) := by
  have HAW := Lib.hid awake_any
  by_cases hbad : limit < 2048 ∨ 1099511627776 < limit
  · have HNB := Lib.hid (new_bad limit hbad W)
    by_cases h1 : limit < 2048
    · have q1 : decide (limit < 2048) = true := decide_eq_true h1
      clear hbad h1
      go_enter Try.func3, Try.ntmps3
      go_wp2_with fail
      refine HNB.out.mono ?_
      rintro e w1 ⟨rfl, rfl⟩
      go_wp2_with fail
      refine (HAW.out _).mono ?_
      rintro e w2 ⟨rfl, hb⟩
      have HB := Lib.hid hb
      clear hb
      go_wp2_with fail
      go_returns
      exact ⟨rfl, HB.out⟩
    · have q1 : decide (limit < 2048) = false := decide_eq_false h1
      have q2 : decide (1099511627776 < limit) = true := decide_eq_true (by omega)
      clear hbad h1
      go_enter Try.func3, Try.ntmps3
      go_wp2_with fail
      refine HNB.out.mono ?_
      rintro e w1 ⟨rfl, rfl⟩
      go_wp2_with fail
      refine (HAW.out _).mono ?_
      rintro e w2 ⟨rfl, hb⟩
      have HB := Lib.hid hb
      clear hb
      go_wp2_with fail
      go_returns
      exact ⟨rfl, HB.out⟩
  have q1 : decide (limit < 2048) = false := decide_eq_false (by omega)
  have q2 : decide (1099511627776 < limit) = false := decide_eq_false (by omega)
  obtain ⟨L, rfl⟩ : ∃ L : Nat, limit = L := ⟨limit.toNat, by omega⟩
  have hL1 : 2048 ≤ L := by omega
  have hL2 : L ≤ 1099511627776 := by omega
  have HNW := Lib.hid (new_ok L hL1 hL2 W)
  have HOK := Lib.hid hok
  have HNR := Lib.hid refNew_any
  obtain ⟨A, c, rfl, hlen, hat⟩ := hA
  have HAT := Lib.hid hat
  obtain ⟨n, hn⟩ : ∃ n, acts.length = n := ⟨_, rfl⟩
  have HN := Lib.hid hn
  rw [hn] at hlen ⊢
  obtain ⟨z, hz⟩ : ∃ z, newR 0 = z := ⟨_, rfl⟩
  have HFZ : Hid (Fit 2048 z) := by rw [← hz]; exact fit_new
  have HSZ : Hid (Sim 0 z (newR L)) := by rw [← hz]; exact sim_new L
  have HRZ : Hid (∀ w, RowR w (.slice none 0 0) z.l) := by rw [← hz]; exact row_new
  rw [hz] at HNR
  unfold refV at HNR
  have mixed : Try.prog.follows .mixedOrders = true := by kernel_rfl
  clear hok hat hn hbad hz
  go_enter Try.func3, Try.ntmps3
  go_wp2_with fail
  refine HNW.out.mono ?_
  intro e w1 hnew
  obtain ⟨rfl, hh⟩ := held_new hnew hL1 hL2
  clear hnew hL1 hL2
  obtain ⟨rb0, hrb⟩ : ∃ rb0, W.heap.size = rb0 := ⟨_, rfl⟩
  have HRB := Lib.hid hrb
  rw [hrb] at hh ⊢
  have H1 := Lib.hid hh
  clear hh hrb
  go_wp2_with fail
  refine (HNR.out _).mono ?_
  rintro e w2 ⟨rfl, hb⟩
  have H2 := Lib.hid (H1.out.below hb)
  obtain ⟨N7, hN7⟩ : ∃ N7, w2.heap.size = N7 := ⟨_, rfl⟩
  obtain ⟨w3, hw3⟩ : ∃ w3, w2.alloc (.cells #[.slice none 0 0, .int .i64 z.num, .int .i64 z.den] 30) = w3 := ⟨_, rfl⟩
  have hb3 : Below w2.heap.size w2 w3 := by rw [← hw3]; exact (Below.refl _ w2).alloc (Nat.le_refl _) _
  have H3 : Hid (Lp rb0 W w3 N7 rb0 (.slice none 0 0) (newR L) (.slice none 0 0) z.num z.den z.l) := ⟨H2.out.below hb3, by rw [← hw3]; exact alloc_block w2 _ hN7, HRZ.out _, by have := H2.out.bel.size; have := H2.out.hS; omega⟩
  clear hb hb3
  go_wp2_with fail
  clear hw3 hN7
  go_loopg [8, 5] 40 (fun gg so sR wr => ∃ (i rb : Nat) (mv v : Value) (P S : Rg) (K : Nat), i ≤ n ∧ i ≤ 40 ∧ gg = 40 - i ∧ so = .int .i64 i ∧ sR = .pointer (some ⟨rb, 0, none⟩) ∧ Lp rb0 W wr N7 rb mv P v S.num S.den S.l ∧ Sim K S P ∧ Fit (2048 + 50 * i) S)
  case atStart => exact ⟨0, rb0, _, _, _, z, 0, Nat.zero_le _, Nat.zero_le _, by omega, rfl, rfl, H3.out, HSZ.out, HFZ.out⟩
  case round =>
    obtain ⟨i, rb, mv, v1, P, S, K, hi, hi4, hg, rfl, rfl, hx, hsim, hfit⟩ := hrel
    have HX := Lib.hid hx
    have HSIM := Lib.hid hsim
    have HFIT := Lib.hid hfit
    have HG := Lib.hid hg
    obtain ⟨A1, c1, rfl, _⟩ := hx.row.lies
    obtain ⟨n1, hn1⟩ : ∃ n1, S.l.length = n1 := ⟨_, rfl⟩
    rw [hn1] at HX
    have HN1 := Lib.hid hn1
    clear hx hsim hfit hg hn1
    have hi0 : (0 : Int) ≤ (i : Int) := by omega
    by_cases hlt : i < n
    · have hltz : (i : Int) < (n : Int) := by omega
      by_cases hl4 : i < 40
      · have hl4z : (i : Int) < 40 := by omega
        obtain ⟨b, off, hA, hbl, hcells⟩ := HAT.out (by have := HN.out; omega)
        subst hA
        obtain ⟨y, hy⟩ := ex_at (xs := acts) (k := i) (by have := HN.out; omega)
        have hnu := HOK.out y (List.mem_of_getElem? hy)
        have HCELL : Hid (∀ w', Below rb0 W w' → ActAt w' b (off + i * 4) y) := fun w' hb => (hcells i y hy).keep hb (by have := HRB.out; omega)
        obtain ⟨kd, id, wt, nu⟩ := y
        unfold ActOk at hnu
        simp only at hnu
        clear hcells hy
        have HST : Hid (∀ w, Below wr.heap.size wr w → Calls Try.prog 12 #[.pointer (some ⟨rb, 0, none⟩), .agg #[.slice A1 n1 c1, .int .i64 S.num, .int .i64 S.den], .agg #[.int .i64 kd, .int .i64 id, .int .i64 wt, .int .u8 nu]] w (StepPost rb0 W w rb mv (2048 + 50 * i))) := fun w hb => by
          have h := HX.out.below hb
          exact step_any kd id wt nu h.held h.row HSIM.out HFIT.out (by omega) hnu
        have HNF := Lib.hid (HX.out.held.lies.notFoot HX.out.ring (by decide) (by decide))
        have HBX : Hid (∀ w', Apart (fun k => Foot rb mv k) wr w' → (w'.cell? ⟨N7, 0, none⟩ = some (.slice A1 n1 c1) ∧ w'.cell? ⟨N7, 1, none⟩ = some (.int .i64 S.num) ∧ w'.cell? ⟨N7, 2, none⟩ = some (.int .i64 S.den)) ∧ (w'.cell? ⟨b, off + i * 4, none⟩ = some (.int .i64 kd) ∧ w'.cell? ⟨b, off + i * 4 + 1, none⟩ = some (.int .i64 id) ∧ w'.cell? ⟨b, off + i * 4 + 2, none⟩ = some (.int .i64 wt) ∧ w'.cell? ⟨b, off + i * 4 + 3, none⟩ = some (.int .u8 nu))) := fun w' ha => by
          obtain ⟨b0, b1, b2, _⟩ := three_heads ((ha.block N7 (heap_lt HX.out.ring) HNF.out).trans HX.out.ring)
          have hbw : Below rb0 W w' := HX.out.held.bel.trans (ha.below (Nat.le_trans HX.out.held.hS HX.out.held.bel.size) (fun k hk hf => by have := (HX.out.held.foot hf).1; omega))
          exact ⟨⟨b0, b1, b2⟩, HCELL.out w' hbw⟩
        have HBD : Hid (Below wr.heap.size wr wr.drew) := below_drewN (Below.refl _ _) 1
        have HDR : Hid (Apart (fun k => Foot rb mv k) wr wr.drew) := Apart.of_below HBD.out
        go_upto_region 10 with fail
        refine wp_region_N (S1 := fun w' => Apart (fun k => Foot rb mv k) wr w') (S2 := fun W => True) (N := fun i => i != 99) (by kernel_rfl) ?_
        change wpAnyN _ _ _ _ _ _ _ 15 (Array.replicate 15 false) _ _
        refine wpAnyN_take false (i := 0) (v := .pointer (some ⟨rb, 0, none⟩)) rfl (by kernel_rfl) (by kernel_rfl) (by kernel_rfl) (fun _ _ _ h => h) (.inl ⟨by kernel_rfl, fun W_ hS => ?_⟩) ⟨HDR.out, fun h => by cases h⟩ ?_
        · simp [execOp, Act.eval, Act.put, go_sem]
        try simp only [Act.put]
        try go_simp
        refine wpAnyN_take false (i := 1) (v := .agg #[.slice A1 n1 c1, .int .i64 S.num, .int .i64 S.den]) rfl (by kernel_rfl) (by kernel_rfl) (by kernel_rfl) (fun _ _ _ h => h) (.inl ⟨by kernel_rfl, fun W_ hS => ?_⟩) ⟨HDR.out, fun h => by cases h⟩ ?_
        · simp [execOp, Act.eval, Act.put, go_sem, (HBX.out W_ hS.1).1.1, (HBX.out W_ hS.1).1.2.1, (HBX.out W_ hS.1).1.2.2]
        try simp only [Act.put]
        try go_simp
        refine wpAnyN_take false (i := 2) (v := .slice (some ⟨b, off, none⟩) n c) rfl (by kernel_rfl) (by kernel_rfl) (by kernel_rfl) (fun _ _ _ h => h) (.inl ⟨by kernel_rfl, fun W_ hS => ?_⟩) ⟨HDR.out, fun h => by cases h⟩ ?_
        · simp [execOp, Act.eval, Act.put, go_sem]
        try simp only [Act.put]
        try go_simp
        refine wpAnyN_take false (i := 3) (v := .int .i64 i) rfl (by kernel_rfl) (by kernel_rfl) (by kernel_rfl) (fun _ _ _ h => h) (.inl ⟨by kernel_rfl, fun W_ hS => ?_⟩) ⟨HDR.out, fun h => by cases h⟩ ?_
        · simp [execOp, Act.eval, Act.put, go_sem]
        try simp only [Act.put]
        try go_simp
        refine wpAnyN_take false (i := 4) (v := .pointer (some ⟨b, off + i * 4, none⟩)) rfl (by kernel_rfl) (by kernel_rfl) (by kernel_rfl) (fun _ _ _ h => h) (.inl ⟨by kernel_rfl, fun W_ hS => ?_⟩) ⟨HDR.out, fun h => by cases h⟩ ?_
        · simp [execOp, Act.eval, Act.put, go_sem, hltz, hi0]
        try simp only [Act.put]
        try go_simp
        refine wpAnyN_take false (i := 5) (v := .agg #[.int .i64 kd, .int .i64 id, .int .i64 wt, .int .u8 nu]) rfl (by kernel_rfl) (by kernel_rfl) (by kernel_rfl) (fun _ _ _ h => h) (.inl ⟨by kernel_rfl, fun W_ hS => ?_⟩) ⟨HDR.out, fun h => by cases h⟩ ?_
        · simp [execOp, Act.eval, Act.put, go_sem, (HBX.out W_ hS.1).2.1, (HBX.out W_ hS.1).2.2.1, (HBX.out W_ hS.1).2.2.2.1, (HBX.out W_ hS.1).2.2.2.2]
        try simp only [Act.put]
        try go_simp
        refine wpAnyN_two (i := 6) (j := 11) (by kernel_rfl) rfl rfl (by kernel_rfl) (by kernel_rfl) ?_ ?_
        · intro K' hK
          try simp only [Act.put]
          go_simp
          refine (HST.out _ HBD.out).mono ?_
          rintro e w6 ⟨rb', mv', P', v', S', C', KS, rfl, hh6, hr6, hs', hf', hC', ha6⟩
          obtain ⟨A6, c6, rfl, _⟩ := hr6.lies
          obtain ⟨n6, hn6⟩ : ∃ n6, S'.l.length = n6 := ⟨_, rfl⟩
          unfold refV
          have HH6 := Lib.hid hh6
          rw [hn6] at hr6 ⊢
          have HR6 := Lib.hid hr6
          have HN6 := Lib.hid hn6
          have HA6 : Hid (Apart (fun k => Foot rb mv k) wr w6) := HDR.out.trans ha6 (fun _ _ h => h)
          have HQ7 := Lib.hid ((HA6.out.block N7 (heap_lt HX.out.ring) HNF.out).trans HX.out.ring)
          clear hh6 hr6 hn6 ha6
          refine hK.out _ _ HA6.out (fun _ _ => trivial) ?_
          refine wpAnyN_take false (i := 7) (v := .tuple #[.pointer (some ⟨rb', 0, none⟩), .agg #[.slice A6 n6 c6, .int .i64 S'.num, .int .i64 S'.den], .bool true]) rfl (by kernel_rfl) (by kernel_rfl) (by kernel_rfl) (fun _ _ _ h => h) (.inl ⟨by kernel_rfl, fun W_ hS => ?_⟩) ⟨HA6.out, fun h => by cases h⟩ ?_
          · simp [execOp, Act.eval, Act.put, go_sem]
          try simp only [Act.put]
          try go_simp
          refine wpAnyN_take false (i := 8) (v := .pointer (some ⟨rb', 0, none⟩)) rfl (by kernel_rfl) (by kernel_rfl) (by kernel_rfl) (fun _ _ _ h => h) (.inl ⟨by kernel_rfl, fun W_ hS => ?_⟩) ⟨HA6.out, fun h => by cases h⟩ ?_
          · simp [execOp, Act.eval, Act.put, go_sem]
          try simp only [Act.put]
          try go_simp
          refine wpAnyN_take false (i := 9) (v := .agg #[.slice A6 n6 c6, .int .i64 S'.num, .int .i64 S'.den]) rfl (by kernel_rfl) (by kernel_rfl) (by kernel_rfl) (fun _ _ _ h => h) (.inl ⟨by kernel_rfl, fun W_ hS => ?_⟩) ⟨HA6.out, fun h => by cases h⟩ ?_
          · simp [execOp, Act.eval, Act.put, go_sem]
          try simp only [Act.put]
          try go_simp
          refine wpAnyN_take false (i := 10) (v := .bool true) rfl (by kernel_rfl) (by kernel_rfl) (by kernel_rfl) (fun _ _ _ h => h) (.inl ⟨by kernel_rfl, fun W_ hS => ?_⟩) ⟨HA6.out, fun h => by cases h⟩ ?_
          · simp [execOp, Act.eval, Act.put, go_sem]
          try simp only [Act.put]
          try go_simp
          refine wpAnyN_step (i := 11) (by kernel_rfl) rfl (by kernel_rfl) ?_
          intro K' hK
          try simp only [Act.put]
          go_simp
          obtain ⟨N10, hN10⟩ : ∃ N10, w6.heap.size = N10 := ⟨_, rfl⟩
          obtain ⟨w7, hw7⟩ : ∃ w7, w6.alloc (.cells #[.slice none 0 0, .int .i64 0, .int .i64 0] 30) = w7 := ⟨_, rfl⟩
          have hb7 : Below w6.heap.size w6 w7 := by rw [← hw7]; exact (Below.refl _ w6).alloc (Nat.le_refl _) _
          have HN10 : Hid (w7.heap[N10]? = some (.cells #[.slice none 0 0, .int .i64 0, .int .i64 0] 30 (0, 0))) := by rw [← hw7]; exact alloc_block w6 _ hN10
          have HNE : Hid (N10 ≠ N7) := by have := heap_lt HQ7.out; show _ ≠ _; omega
          have HGE : Hid (wr.heap.size ≤ N10) := by have := HA6.out.size; show _ ≤ _; omega
          have HA7 : Hid (Apart (fun k => Foot rb mv k) wr w7) := HA6.out.trans (Apart.of_below hb7) (fun _ _ h => h)
          have HH7 := Lib.hid (HH6.out.below hb7)
          have HR7 := Lib.hid (HR6.out.below hb7)
          have HQ7' := Lib.hid (keep_block HQ7.out hb7)
          try simp only [hN10, hw7]
          clear hw7 hN10 hb7
          refine hK.out _ _ HA7.out (fun _ _ => trivial) ?_
          refine wpAnyN_take false (i := 12) (v := .pointer (some ⟨rb', 0, none⟩)) rfl (by kernel_rfl) (by kernel_rfl) (by kernel_rfl) (fun _ _ _ h => h) (.inl ⟨by kernel_rfl, fun W_ hS => ?_⟩) ⟨HA7.out, fun h => by cases h⟩ ?_
          · simp [execOp, Act.eval, Act.put, go_sem]
          try simp only [Act.put]
          try go_simp
          obtain ⟨o0, o1, o2, o3, o4, o5⟩ := three_heads HN10.out
          have HZ : Hid (Lp rb0 W (((w7.setCell ⟨N10, 0, none⟩ (.slice A6 n6 c6)).setCell ⟨N10, 1, none⟩ (.int .i64 S'.num)).setCell ⟨N10, 2, none⟩ (.int .i64 S'.den)) N10 rb' mv' P' (.slice A6 n6 c6) S'.num S'.den S'.l ∧ (((w7.setCell ⟨N10, 0, none⟩ (.slice A6 n6 c6)).setCell ⟨N10, 1, none⟩ (.int .i64 S'.num)).setCell ⟨N10, 2, none⟩ (.int .i64 S'.den)).heap[N7]? = some (.cells #[.slice A1 n1 c1, .int .i64 S.num, .int .i64 S.den] 30 (0, 0))) :=
            ⟨lp_set HH7.out HN10.out HR7.out (by have := HGE.out; have := HX.out.hB; have := heap_lt HX.out.ring; omega), ((ring_set HN10.out _ _ _).2 N7 (fun e => HNE.out e.symm)).trans HQ7'.out⟩
          refine wpAnyN_step (i := 13) (by kernel_rfl) rfl (by kernel_rfl) ?_
          intro K' hK
          try simp only [Act.put]
          go_simp
          refine hK.out _ _ (((HA7.out.set (p := ⟨N10, 0, none⟩) (.inr HGE.out) _).set (p := ⟨N10, 1, none⟩) (.inr HGE.out) _).set (p := ⟨N10, 2, none⟩) (.inr HGE.out) _) (fun _ _ => trivial) ?_
          clear o0 o1 o2 o3 o4 o5
          refine wpAnyN_take false (i := 14) (v := .bool true) rfl (by kernel_rfl) (by kernel_rfl) (by kernel_rfl) (fun _ _ _ h => h) (.inl ⟨by kernel_rfl, fun W_ hS => ?_⟩) ⟨((HA7.out.set (p := ⟨N10, 0, none⟩) (.inr HGE.out) _).set (p := ⟨N10, 1, none⟩) (.inr HGE.out) _).set (p := ⟨N10, 2, none⟩) (.inr HGE.out) _, fun h => by cases h⟩ ?_
          · simp [execOp, Act.eval, Act.put, go_sem]
          try simp only [Act.put]
          try go_simp
          refine wpAnyN_done (by kernel_rfl) ?_
          try simp only [Act.put]
          try go_simp
          obtain ⟨w9, hw9⟩ : ∃ w9, ((w7.setCell ⟨N10, 0, none⟩ (.slice A6 n6 c6)).setCell ⟨N10, 1, none⟩ (.int .i64 S'.num)).setCell ⟨N10, 2, none⟩ (.int .i64 S'.den) = w9 := ⟨_, rfl⟩
          rw [hw9] at HZ ⊢
          obtain ⟨HL9, HQ7⟩ := HZ.out
          have HL := Lib.hid HL9
          have H7 := Lib.hid HQ7
          clear HL9 HQ7 HZ hw9
          have HAK := Lib.hid (alike_any w9 rb' mv' _ P' S' HL.out.held.lies HL.out.held.ok (by have h := HL.out.row; rw [← HN6.out] at h; exact h) (hf'.small (by omega)) hf' hs')
          unfold refV at HAK
          rw [HN6.out] at HAK
          obtain ⟨r0, r1, r2, r3, r4, r5⟩ := three_heads HL.out.ring
          have HFF := Lib.hid hf'
          have HSS := Lib.hid hs'
          have HCC := Lib.hid hC'
          clear hf' hs' hC'
          go_wp2_with fail
          refine HAK.out.mono ?_
          rintro e w10 ⟨rfl, hb10⟩
          have HLA := Lib.hid (HL.out.below hb10)
          have H7A := Lib.hid (keep_block H7.out hb10)
          clear hb10 r0 r1 r2 r3 r4 r5
          have HBY : Hid (∀ w', Apart (fun k => k = N7) w10 w' → w'.cell? ⟨N10, 0, none⟩ = some (.slice A6 n6 c6) ∧ w'.cell? ⟨N10, 1, none⟩ = some (.int .i64 S'.num) ∧ w'.cell? ⟨N10, 2, none⟩ = some (.int .i64 S'.den)) := fun w' ha => by
            obtain ⟨b0, b1, b2, _⟩ := three_heads ((ha.block N10 (heap_lt HLA.out.ring) HNE.out).trans HLA.out.ring)
            exact ⟨b0, b1, b2⟩
          have HBE : Hid (Below w10.heap.size w10 w10.drew) := below_drewN (Below.refl _ _) 1
          have HDE : Hid (Apart (fun k => k = N7) w10 w10.drew) := Apart.of_below HBE.out
          have HEND := Lib.hid (lp_set (a := S'.num) (b := S'.den) (HLA.out.held.below HBE.out) (keep_block H7A.out HBE.out) (HLA.out.row.below HBE.out) HX.out.hB)
          obtain ⟨o0, o1, o2, o3, o4, o5⟩ := three_heads H7A.out
          go_upto_region 13 with fail
          refine wp_region_N (S1 := fun w' => Apart (fun k => k = N7) w10 w') (S2 := fun W => True) (N := fun i => i != 99) (by kernel_rfl) ?_
          change wpAnyN _ _ _ _ _ _ _ 4 (Array.replicate 4 false) _ _
          refine wpAnyN_take false (i := 0) (v := .pointer (some ⟨rb', 0, none⟩)) rfl (by kernel_rfl) (by kernel_rfl) (by kernel_rfl) (fun _ _ _ h => h) (.inl ⟨by kernel_rfl, fun W_ hS => ?_⟩) ⟨HDE.out, fun h => by cases h⟩ ?_
          · simp [execOp, Act.eval, Act.put, go_sem]
          try simp only [Act.put]
          try go_simp
          refine wpAnyN_take false (i := 1) (v := .agg #[.slice A6 n6 c6, .int .i64 S'.num, .int .i64 S'.den]) rfl (by kernel_rfl) (by kernel_rfl) (by kernel_rfl) (fun _ _ _ h => h) (.inl ⟨by kernel_rfl, fun W_ hS => ?_⟩) ⟨HDE.out, fun h => by cases h⟩ ?_
          · simp [execOp, Act.eval, Act.put, go_sem, (HBY.out W_ hS.1).1, (HBY.out W_ hS.1).2.1, (HBY.out W_ hS.1).2.2]
          try simp only [Act.put]
          try go_simp
          refine wpAnyN_take false (i := 2) (v := .pointer (some ⟨rb', 0, none⟩)) rfl (by kernel_rfl) (by kernel_rfl) (by kernel_rfl) (fun _ _ _ h => h) (.inl ⟨by kernel_rfl, fun W_ hS => ?_⟩) ⟨HDE.out, fun h => by cases h⟩ ?_
          · simp [execOp, Act.eval, Act.put, go_sem]
          try simp only [Act.put]
          try go_simp
          refine wpAnyN_step (i := 3) (by kernel_rfl) rfl (by kernel_rfl) ?_
          intro K' hK
          try simp only [Act.put]
          go_simp
          refine hK.out _ _ (((HDE.out.set (p := ⟨N7, 0, none⟩) (.inl rfl) _).set (p := ⟨N7, 1, none⟩) (.inl rfl) _).set (p := ⟨N7, 2, none⟩) (.inl rfl) _) (fun _ _ => trivial) ?_
          refine wpAnyN_done (by kernel_rfl) ?_
          try simp only [Act.put]
          try go_simp
          clear o0 o1 o2 o3 o4 o5
          go_wp2_with fail
          go_roundg (40 - (i + 1))
          case measure => have := HG.out; omega
          case rel => exact ⟨i + 1, rb', mv', _, P', S', KS, by omega, by omega, rfl, by go_num, rfl, HEND.out, HSS.out, HFF.out.more (by have := HCC.out; omega)⟩
        · intro K' hK
          try simp only [Act.put]
          go_simp
          obtain ⟨N10, hN10⟩ : ∃ N10, wr.heap.size = N10 := ⟨_, rfl⟩
          obtain ⟨w5, hw5⟩ : ∃ w5, (wr.alloc (.cells #[.slice none 0 0, .int .i64 0, .int .i64 0] 30)).drew = w5 := ⟨_, rfl⟩
          have hb5 : Below wr.heap.size wr w5 := by rw [← hw5]; exact below_drewN ((Below.refl _ wr).alloc (Nat.le_refl _) _) 1
          have HN5 : Hid (w5.heap[N10]? = some (.cells #[.slice none 0 0, .int .i64 0, .int .i64 0] 30 (0, 0))) := by rw [← hw5]; exact alloc_block wr _ hN10
          have HNE : Hid (N10 ≠ N7) := by have := heap_lt HX.out.ring; show _ ≠ _; omega
          have HGE : Hid (wr.heap.size ≤ N10) := by show _ ≤ _; omega
          have HB5 := Lib.hid hb5
          have HA5 : Hid (Apart (fun k => Foot rb mv k) wr w5) := Apart.of_below hb5
          try simp only [hN10, hw5]
          clear hw5 hN10 hb5
          refine hK.out _ _ HA5.out (fun _ _ => trivial) ?_
          refine wpAnyN_step (i := 6) (by kernel_rfl) rfl (by kernel_rfl) ?_
          intro K' hK
          try simp only [Act.put]
          go_simp
          refine (HST.out _ HB5.out).mono ?_
          rintro e w7 ⟨rb', mv', P', v', S', C', KS, rfl, hh6, hr6, hs', hf', hC', ha6⟩
          obtain ⟨A6, c6, rfl, _⟩ := hr6.lies
          obtain ⟨n6, hn6⟩ : ∃ n6, S'.l.length = n6 := ⟨_, rfl⟩
          unfold refV
          have HH6 := Lib.hid hh6
          rw [hn6] at hr6 ⊢
          have HR6 := Lib.hid hr6
          have HN6 := Lib.hid hn6
          have HA7 : Hid (Apart (fun k => Foot rb mv k) wr w7) := HA5.out.trans ha6 (fun _ _ h => h)
          have HQ7' := Lib.hid ((HA7.out.block N7 (heap_lt HX.out.ring) HNF.out).trans HX.out.ring)
          have HN10 := Lib.hid ((ha6.block N10 (heap_lt HN5.out) ((HX.out.below HB5.out).held.lies.notFoot HN5.out (by decide) (by decide))).trans HN5.out)
          have HH7 := Lib.hid HH6.out
          have HR7 := Lib.hid HR6.out
          clear hh6 hr6 hn6 ha6
          refine hK.out _ _ HA7.out (fun _ _ => trivial) ?_
          refine wpAnyN_take false (i := 7) (v := .tuple #[.pointer (some ⟨rb', 0, none⟩), .agg #[.slice A6 n6 c6, .int .i64 S'.num, .int .i64 S'.den], .bool true]) rfl (by kernel_rfl) (by kernel_rfl) (by kernel_rfl) (fun _ _ _ h => h) (.inl ⟨by kernel_rfl, fun W_ hS => ?_⟩) ⟨HA7.out, fun h => by cases h⟩ ?_
          · simp [execOp, Act.eval, Act.put, go_sem]
          try simp only [Act.put]
          try go_simp
          refine wpAnyN_take false (i := 8) (v := .pointer (some ⟨rb', 0, none⟩)) rfl (by kernel_rfl) (by kernel_rfl) (by kernel_rfl) (fun _ _ _ h => h) (.inl ⟨by kernel_rfl, fun W_ hS => ?_⟩) ⟨HA7.out, fun h => by cases h⟩ ?_
          · simp [execOp, Act.eval, Act.put, go_sem]
          try simp only [Act.put]
          try go_simp
          refine wpAnyN_take false (i := 9) (v := .agg #[.slice A6 n6 c6, .int .i64 S'.num, .int .i64 S'.den]) rfl (by kernel_rfl) (by kernel_rfl) (by kernel_rfl) (fun _ _ _ h => h) (.inl ⟨by kernel_rfl, fun W_ hS => ?_⟩) ⟨HA7.out, fun h => by cases h⟩ ?_
          · simp [execOp, Act.eval, Act.put, go_sem]
          try simp only [Act.put]
          try go_simp
          refine wpAnyN_take false (i := 10) (v := .bool true) rfl (by kernel_rfl) (by kernel_rfl) (by kernel_rfl) (fun _ _ _ h => h) (.inl ⟨by kernel_rfl, fun W_ hS => ?_⟩) ⟨HA7.out, fun h => by cases h⟩ ?_
          · simp [execOp, Act.eval, Act.put, go_sem]
          try simp only [Act.put]
          try go_simp
          refine wpAnyN_take false (i := 12) (v := .pointer (some ⟨rb', 0, none⟩)) rfl (by kernel_rfl) (by kernel_rfl) (by kernel_rfl) (fun _ _ _ h => h) (.inl ⟨by kernel_rfl, fun W_ hS => ?_⟩) ⟨HA7.out, fun h => by cases h⟩ ?_
          · simp [execOp, Act.eval, Act.put, go_sem]
          try simp only [Act.put]
          try go_simp
          obtain ⟨o0, o1, o2, o3, o4, o5⟩ := three_heads HN10.out
          have HZ : Hid (Lp rb0 W (((w7.setCell ⟨N10, 0, none⟩ (.slice A6 n6 c6)).setCell ⟨N10, 1, none⟩ (.int .i64 S'.num)).setCell ⟨N10, 2, none⟩ (.int .i64 S'.den)) N10 rb' mv' P' (.slice A6 n6 c6) S'.num S'.den S'.l ∧ (((w7.setCell ⟨N10, 0, none⟩ (.slice A6 n6 c6)).setCell ⟨N10, 1, none⟩ (.int .i64 S'.num)).setCell ⟨N10, 2, none⟩ (.int .i64 S'.den)).heap[N7]? = some (.cells #[.slice A1 n1 c1, .int .i64 S.num, .int .i64 S.den] 30 (0, 0))) :=
            ⟨lp_set HH7.out HN10.out HR7.out (by have := HGE.out; have := HX.out.hB; have := heap_lt HX.out.ring; omega), ((ring_set HN10.out _ _ _).2 N7 (fun e => HNE.out e.symm)).trans HQ7'.out⟩
          refine wpAnyN_step (i := 13) (by kernel_rfl) rfl (by kernel_rfl) ?_
          intro K' hK
          try simp only [Act.put]
          go_simp
          refine hK.out _ _ (((HA7.out.set (p := ⟨N10, 0, none⟩) (.inr HGE.out) _).set (p := ⟨N10, 1, none⟩) (.inr HGE.out) _).set (p := ⟨N10, 2, none⟩) (.inr HGE.out) _) (fun _ _ => trivial) ?_
          clear o0 o1 o2 o3 o4 o5
          refine wpAnyN_take false (i := 14) (v := .bool true) rfl (by kernel_rfl) (by kernel_rfl) (by kernel_rfl) (fun _ _ _ h => h) (.inl ⟨by kernel_rfl, fun W_ hS => ?_⟩) ⟨((HA7.out.set (p := ⟨N10, 0, none⟩) (.inr HGE.out) _).set (p := ⟨N10, 1, none⟩) (.inr HGE.out) _).set (p := ⟨N10, 2, none⟩) (.inr HGE.out) _, fun h => by cases h⟩ ?_
          · simp [execOp, Act.eval, Act.put, go_sem]
          try simp only [Act.put]
          try go_simp
          refine wpAnyN_done (by kernel_rfl) ?_
          try simp only [Act.put]
          try go_simp
          obtain ⟨w9, hw9⟩ : ∃ w9, ((w7.setCell ⟨N10, 0, none⟩ (.slice A6 n6 c6)).setCell ⟨N10, 1, none⟩ (.int .i64 S'.num)).setCell ⟨N10, 2, none⟩ (.int .i64 S'.den) = w9 := ⟨_, rfl⟩
          rw [hw9] at HZ ⊢
          obtain ⟨HL9, HQ7⟩ := HZ.out
          have HL := Lib.hid HL9
          have H7 := Lib.hid HQ7
          clear HL9 HQ7 HZ hw9
          have HAK := Lib.hid (alike_any w9 rb' mv' _ P' S' HL.out.held.lies HL.out.held.ok (by have h := HL.out.row; rw [← HN6.out] at h; exact h) (hf'.small (by omega)) hf' hs')
          unfold refV at HAK
          rw [HN6.out] at HAK
          obtain ⟨r0, r1, r2, r3, r4, r5⟩ := three_heads HL.out.ring
          have HFF := Lib.hid hf'
          have HSS := Lib.hid hs'
          have HCC := Lib.hid hC'
          clear hf' hs' hC'
          go_wp2_with fail
          refine HAK.out.mono ?_
          rintro e w10 ⟨rfl, hb10⟩
          have HLA := Lib.hid (HL.out.below hb10)
          have H7A := Lib.hid (keep_block H7.out hb10)
          clear hb10 r0 r1 r2 r3 r4 r5
          have HBY : Hid (∀ w', Apart (fun k => k = N7) w10 w' → w'.cell? ⟨N10, 0, none⟩ = some (.slice A6 n6 c6) ∧ w'.cell? ⟨N10, 1, none⟩ = some (.int .i64 S'.num) ∧ w'.cell? ⟨N10, 2, none⟩ = some (.int .i64 S'.den)) := fun w' ha => by
            obtain ⟨b0, b1, b2, _⟩ := three_heads ((ha.block N10 (heap_lt HLA.out.ring) HNE.out).trans HLA.out.ring)
            exact ⟨b0, b1, b2⟩
          have HBE : Hid (Below w10.heap.size w10 w10.drew) := below_drewN (Below.refl _ _) 1
          have HDE : Hid (Apart (fun k => k = N7) w10 w10.drew) := Apart.of_below HBE.out
          have HEND := Lib.hid (lp_set (a := S'.num) (b := S'.den) (HLA.out.held.below HBE.out) (keep_block H7A.out HBE.out) (HLA.out.row.below HBE.out) HX.out.hB)
          obtain ⟨o0, o1, o2, o3, o4, o5⟩ := three_heads H7A.out
          go_upto_region 13 with fail
          refine wp_region_N (S1 := fun w' => Apart (fun k => k = N7) w10 w') (S2 := fun W => True) (N := fun i => i != 99) (by kernel_rfl) ?_
          change wpAnyN _ _ _ _ _ _ _ 4 (Array.replicate 4 false) _ _
          refine wpAnyN_take false (i := 0) (v := .pointer (some ⟨rb', 0, none⟩)) rfl (by kernel_rfl) (by kernel_rfl) (by kernel_rfl) (fun _ _ _ h => h) (.inl ⟨by kernel_rfl, fun W_ hS => ?_⟩) ⟨HDE.out, fun h => by cases h⟩ ?_
          · simp [execOp, Act.eval, Act.put, go_sem]
          try simp only [Act.put]
          try go_simp
          refine wpAnyN_take false (i := 1) (v := .agg #[.slice A6 n6 c6, .int .i64 S'.num, .int .i64 S'.den]) rfl (by kernel_rfl) (by kernel_rfl) (by kernel_rfl) (fun _ _ _ h => h) (.inl ⟨by kernel_rfl, fun W_ hS => ?_⟩) ⟨HDE.out, fun h => by cases h⟩ ?_
          · simp [execOp, Act.eval, Act.put, go_sem, (HBY.out W_ hS.1).1, (HBY.out W_ hS.1).2.1, (HBY.out W_ hS.1).2.2]
          try simp only [Act.put]
          try go_simp
          refine wpAnyN_take false (i := 2) (v := .pointer (some ⟨rb', 0, none⟩)) rfl (by kernel_rfl) (by kernel_rfl) (by kernel_rfl) (fun _ _ _ h => h) (.inl ⟨by kernel_rfl, fun W_ hS => ?_⟩) ⟨HDE.out, fun h => by cases h⟩ ?_
          · simp [execOp, Act.eval, Act.put, go_sem]
          try simp only [Act.put]
          try go_simp
          refine wpAnyN_step (i := 3) (by kernel_rfl) rfl (by kernel_rfl) ?_
          intro K' hK
          try simp only [Act.put]
          go_simp
          refine hK.out _ _ (((HDE.out.set (p := ⟨N7, 0, none⟩) (.inl rfl) _).set (p := ⟨N7, 1, none⟩) (.inl rfl) _).set (p := ⟨N7, 2, none⟩) (.inl rfl) _) (fun _ _ => trivial) ?_
          refine wpAnyN_done (by kernel_rfl) ?_
          try simp only [Act.put]
          try go_simp
          clear o0 o1 o2 o3 o4 o5
          go_wp2_with fail
          go_roundg (40 - (i + 1))
          case measure => have := HG.out; omega
          case rel => exact ⟨i + 1, rb', mv', _, P', S', KS, by omega, by omega, rfl, by go_num, rfl, HEND.out, HSS.out, HFF.out.more (by have := HCC.out; omega)⟩
      · have hl4z : ¬ (i : Int) < 40 := by omega
        go_wp2_with fail
        refine (HAW.out _).mono ?_
        rintro e w9 ⟨rfl, hb⟩
        have HB9 := Lib.hid (HX.out.below hb)
        clear hb
        go_wp2
        go_ret
        exact ⟨rfl, by rw [HRB.out]; exact HB9.out.held.bel⟩
    · have hltz : ¬ (i : Int) < (n : Int) := by omega
      go_wp2_with fail
      refine (HAW.out _).mono ?_
      rintro e w9 ⟨rfl, hb⟩
      have HB9 := Lib.hid (HX.out.below hb)
      clear hb
      go_wp2
      go_ret
      exact ⟨rfl, by rw [HRB.out]; exact HB9.out.held.bel⟩
end Go.Proofs.Ytanchjcifhbllaa
