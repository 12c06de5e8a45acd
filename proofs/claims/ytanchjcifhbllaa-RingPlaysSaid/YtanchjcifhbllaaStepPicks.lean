/-
  A step that picks, up to fifty times.
  Conditions: the numbers fit.
-/
import Derived.Test.YtanchjcifhbllaaStp
import Derived.Test.YtanchjcifhbllaaRefPick
set_option linter.unusedVariables false
set_option linter.unusedSimpArgs false
namespace Go.Proofs.Ytanchjcifhbllaa
open Go.RowKit

set_option maxRecDepth 100000 in
set_option maxHeartbeats 4000000 in
theorem step_picks {B : Nat} {W0 W : World} {rb : Nat} {mv v : Value} {P S : Rg} {C K : Nat} (id wt : Int) (nu : Nat) (hh : Held B W0 W rb mv P) (hr : RowR W v S.l) (hsim : Sim K S P) (hf : Fit C S) (hC : C ≤ 9000) (hnu : nu < 256) :
    Calls Try.prog 12 #[.pointer (some ⟨rb, 0, none⟩), refV v S, .agg #[.int .i64 5, .int .i64 id, .int .i64 wt, .int .u8 nu]] W (StepPost B W0 W rb mv C) := by
  have HS := Lib.hid (hf.small (show C ≤ 10000 by omega))
  have HSIM := Lib.hid hsim
  have HFIT := Lib.hid hf
  have HOK := Lib.hid hh.ok
  obtain ⟨A, c, rfl, hat⟩ := hr.lies
  obtain ⟨N, hN⟩ : ∃ N, W.heap.size = N := ⟨_, rfl⟩
  obtain ⟨n, hn⟩ : ∃ n, S.l.length = n := ⟨_, rfl⟩
  rw [hn] at hr ⊢
  obtain ⟨w3, hw3⟩ : ∃ w3, ((W.alloc (.cells #[.slice A n c, .int .i64 S.num, .int .i64 S.den] 30)).alloc (.cells #[.int .i64 5, .int .i64 id, .int .i64 wt, .int .u8 nu] 35)).alloc (.cells #[.slice none 0 0, .int .i64 0, .int .i64 0] 30) = w3 := ⟨_, rfl⟩
  have HX : Hid (Stp B W0 W w3 N (.int .i64 5) (.int .i64 id) (.int .i64 wt) (.int .u8 nu) rb mv mv P (.slice A n c) S.num S.den S.l) := by
    refine Stp.new hh hr ?_
    rw [← hw3, ← hN]
    exact box3_new W _ _ _ _ _ _ _
  obtain ⟨r0, r1, r2, _⟩ := three_heads HX.out.ring
  obtain ⟨a0, a1, a2, a3, _⟩ := four_rm HX.out.act
  have mixed : Try.prog.follows .mixedOrders = true := by kernel_rfl
  have HCC := Lib.hid hC
  have HNN := Lib.hid hn
  unfold refV
  clear hh hr hsim hf hat hn hC
  go_enter Try.func12, Try.ntmps12
  go_wp2_with fail
  clear hw3 hN r0 r1 r2 a0 a1 a2 a3
  go_loopg [12] 50 (fun gg si wr => ∃ (i : Nat) (mv1 v1 : Value) (P1 S1 : Rg) (K1 : Nat), i ≤ nu ∧ i ≤ 50 ∧ gg = 50 - i ∧ si = .int .i64 i ∧ Stp B W0 W wr N (.int .i64 5) (.int .i64 id) (.int .i64 wt) (.int .u8 nu) rb mv mv1 P1 v1 S1.num S1.den S1.l ∧ Sim K1 S1 P1 ∧ Fit (C + i) S1)
  case atStart => exact ⟨0, _, _, _, _, _, Nat.zero_le _, Nat.zero_le _, by omega, rfl, HX.out, HSIM.out, HFIT.out⟩
  case round =>
    obtain ⟨i, mv1, v1, P1, S1, K1, hi, hi5, hg, rfl, hx, hs1, hf1⟩ := hrel
    have HX1 := Lib.hid hx
    have HS1 := Lib.hid hs1
    have HF1 := Lib.hid hf1
    have HG := Lib.hid hg
    obtain ⟨A1, c1, rfl, _⟩ := hx.row.lies
    obtain ⟨n1, hn1⟩ : ∃ n1, S1.l.length = n1 := ⟨_, rfl⟩
    rw [hn1] at HX1
    have HN1 := Lib.hid hn1
    clear hx hs1 hf1 hg hn1
    obtain ⟨r0, r1, r2, r3, r4, r5⟩ := three_heads HX1.out.ring
    obtain ⟨a0, a1, a2, a3, _⟩ := four_rm HX1.out.act
    have hi0 : (0 : Int) ≤ (i : Int) := by omega
    by_cases hlt : i < nu ∧ i < 50
    · obtain ⟨hlt, hl5⟩ := hlt
      have hltz : (i : Int) < (nu : Int) := by omega
      have hl5z : (i : Int) < 50 := by omega
      obtain ⟨q, hq, hqp⟩ := pick_same HS1.out HF1.out
      have HOK1 := Lib.hid HX1.out.held.ok
      have HNX := Lib.hid (next_any wr rb mv1 P1 HX1.out.held.lies HOK1.out)
      have HPI := Lib.hid (fun (w : World) (h : RingAt w rb mv1 P1) => pick_any w rb mv1 P1 h HOK1.out)
      rw [hq] at HNX HPI
      have HRP := Lib.hid (fun (w : World) (h : RowR w (.slice A1 S1.l.length c1) S1.l) => refPick_any w _ S1 h (HF1.out.small (by have := HCC.out; omega)) HF1.out.srt)
      rw [hqp, HN1.out] at HRP
      obtain ⟨_, K2, hs2⟩ := HS1.out.pick HF1.out
      have HS2 := Lib.hid hs2
      have HF2 := Lib.hid HF1.out.plain
      obtain ⟨S2, hS2⟩ : ∃ S2, (plainA S1).2 = S2 := ⟨_, rfl⟩
      rw [hS2] at HRP HS2 HF2
      unfold refV at HRP
      clear hq hqp hs2 hS2
      go_wp2_with fail
      refine HNX.out.mono ?_
      rintro e w5 ⟨rfl, hb⟩
      have HX5 := Lib.hid (HX1.out.below hb)
      clear hb r0 r1 r2 r3 r4 r5 a0 a1 a2 a3
      go_wp2_with fail
      refine (HPI.out _ HX5.out.held.lies).mono ?_
      intro e w6 hm
      obtain ⟨mv6, rfl, h6, ap6, gr6⟩ := HX5.out.mut hm HOK1.out.pick
      have HX6 := Lib.hid h6
      clear hm h6 ap6 gr6
      obtain ⟨r0, r1, r2, r3, r4, r5⟩ := three_heads HX6.out.ring
      go_wp2_with fail
      refine (HRP.out _ (by have h := HX6.out.row; exact h)).mono ?_
      rintro e w7 ⟨v7, rfl, hr7, hb7⟩
      have HX7 := Lib.hid (HX6.out.below hb7)
      obtain ⟨A7, c7, rfl, _⟩ := hr7.lies
      unfold refV
      obtain ⟨n7, hn7⟩ : ∃ n7, S2.l.length = n7 := ⟨_, rfl⟩
      have HR7 := Lib.hid hr7
      have HN7 := Lib.hid hn7
      rw [hn7] at HR7 ⊢
      obtain ⟨N8, hN8⟩ : ∃ N8, w7.heap.size = N8 := ⟨_, rfl⟩
      obtain ⟨w8, hw8⟩ : ∃ w8, w7.alloc (.cells #[.slice A7 n7 c7, .int .i64 S2.num, .int .i64 S2.den] 30) = w8 := ⟨_, rfl⟩
      have hb8 : Below w7.heap.size w7 w8 := by rw [← hw8]; exact (Below.refl _ w7).alloc (Nat.le_refl _) _
      have HN8 : Hid (w8.heap[N8]? = some (.cells #[.slice A7 n7 c7, .int .i64 S2.num, .int .i64 S2.den] 30 (0, 0))) := by rw [← hw8]; exact alloc_block w7 _ hN8
      have HX8 := Lib.hid (HX7.out.below hb8)
      have HX9 := Lib.hid (HX8.out.set (l' := S2.l) S2.num S2.den (hr7.below hb8))
      rw [hn7] at HX9
      clear hr7 hb7 hb8 hn7 r0 r1 r2 r3 r4 r5
      obtain ⟨r0, r1, r2, r3, r4, r5⟩ := three_heads HX8.out.ring
      obtain ⟨b0, b1, b2, _⟩ := three_heads HN8.out
      go_wp2_with fail
      go_roundg (50 - (i + 1))
      case measure => have := HG.out; omega
      case rel => exact ⟨i + 1, mv6, _, _, S2, K2, by omega, by omega, rfl, by go_num, HX9.out, HS2.out, HF2.out⟩
    · have hend : (decide ((i : Int) < (nu : Int)) && decide ((i : Int) < 50)) = false := by simp; omega
      have HBX : Hid (∀ w', Apart (fun k => k = N + 2) wr w' → w'.cell? ⟨N, 0, none⟩ = some (.slice A1 n1 c1) ∧ w'.cell? ⟨N, 1, none⟩ = some (.int .i64 S1.num) ∧ w'.cell? ⟨N, 2, none⟩ = some (.int .i64 S1.den)) := fun w' ha => by
        obtain ⟨b0, b1, b2, _⟩ := three_heads ((ha.block N (heap_lt HX1.out.ring) (by omega)).trans HX1.out.ring)
        exact ⟨b0, b1, b2⟩
      have HB6 : Hid (Below wr.heap.size wr wr.drew) := below_drewN (Below.refl _ _) 1
      have HXD := Lib.hid (HX1.out.below HB6.out)
      have HDN := Lib.hid (HXD.out.done (S' := S1) (C := C) HXD.out.held HXD.out.row HS1.out HF1.out (by omega))
      have HDR : Hid (Apart (fun k => k = N + 2) wr wr.drew) := Apart.of_below HB6.out
      obtain ⟨o0, o1, o2, o3, o4, o5⟩ := three_heads HX1.out.res
      by_cases hlt2 : i < nu
      · have hltz : (i : Int) < (nu : Int) := by omega
        have hl5z : ¬ (i : Int) < 50 := by omega
        clear hlt hend
        go_upto_region 18 with fail
        refine wp_region_N (S1 := fun w' => Apart (fun k => k = N + 2) wr w') (S2 := fun W => True) (N := fun i => i != 99) (by kernel_rfl) ?_
        change wpAnyN _ _ _ _ _ _ _ 5 (Array.replicate 5 false) _ _
        refine wpAnyN_take false (i := 0) (v := .pointer (some ⟨rb, 0, none⟩)) rfl (by kernel_rfl) (by kernel_rfl) (by kernel_rfl) (fun _ _ _ h => h) (.inl ⟨by kernel_rfl, fun W_ hS => ?_⟩) ⟨HDR.out, fun h => by cases h⟩ ?_
        · simp [execOp, Act.eval, Act.put, go_sem]
        try simp only [Act.put]
        try go_simp
        refine wpAnyN_take false (i := 1) (v := .agg #[.slice A1 n1 c1, .int .i64 S1.num, .int .i64 S1.den]) rfl (by kernel_rfl) (by kernel_rfl) (by kernel_rfl) (fun _ _ _ h => h) (.inl ⟨by kernel_rfl, fun W_ hS => ?_⟩) ⟨HDR.out, fun h => by cases h⟩ ?_
        · simp [execOp, Act.eval, Act.put, go_sem, (HBX.out W_ hS.1).1, (HBX.out W_ hS.1).2.1, (HBX.out W_ hS.1).2.2]
        try simp only [Act.put]
        try go_simp
        refine wpAnyN_take false (i := 2) (v := .pointer (some ⟨rb, 0, none⟩)) rfl (by kernel_rfl) (by kernel_rfl) (by kernel_rfl) (fun _ _ _ h => h) (.inl ⟨by kernel_rfl, fun W_ hS => ?_⟩) ⟨HDR.out, fun h => by cases h⟩ ?_
        · simp [execOp, Act.eval, Act.put, go_sem]
        try simp only [Act.put]
        try go_simp
        refine wpAnyN_step (i := 3) (by kernel_rfl) rfl (by kernel_rfl) ?_
        intro K' hK
        try simp only [Act.put]
        go_simp
        refine hK.out _ _ (((HDR.out.set (p := ⟨N + 2, 0, none⟩) (.inl rfl) _).set (p := ⟨N + 2, 1, none⟩) (.inl rfl) _).set (p := ⟨N + 2, 2, none⟩) (.inl rfl) _) (fun _ _ => trivial) ?_
        refine wpAnyN_take false (i := 4) (v := .bool true) rfl (by kernel_rfl) (by kernel_rfl) (by kernel_rfl) (fun _ _ _ h => h) (.inl ⟨by kernel_rfl, fun W_ hS => ?_⟩) ⟨((HDR.out.set (p := ⟨N + 2, 0, none⟩) (.inl rfl) _).set (p := ⟨N + 2, 1, none⟩) (.inl rfl) _).set (p := ⟨N + 2, 2, none⟩) (.inl rfl) _, fun h => by cases h⟩ ?_
        · simp [execOp, Act.eval, Act.put, go_sem]
        try simp only [Act.put]
        try go_simp
        refine wpAnyN_done (by kernel_rfl) ?_
        try simp only [Act.put]
        try go_simp
        go_wp2
        refine bodyPost_ret (v := .tuple #[.pointer (some ⟨rb, 0, none⟩), .agg #[.slice A1 n1 c1, .int .i64 S1.num, .int .i64 S1.den], .bool true]) (results_tmp_row_tmp rfl _ _ (N + 2) _ _ _ _ rfl HDN.out.1 Try.underlying30 rfl (Try.sizeRr _ _ _) _ _ rfl rfl) rfl ?_
        exact HDN.out.2
      · have hltz : ¬ (i : Int) < (nu : Int) := by omega
        clear hlt hend
        go_upto_region 18 with fail
        refine wp_region_N (S1 := fun w' => Apart (fun k => k = N + 2) wr w') (S2 := fun W => True) (N := fun i => i != 99) (by kernel_rfl) ?_
        change wpAnyN _ _ _ _ _ _ _ 5 (Array.replicate 5 false) _ _
        refine wpAnyN_take false (i := 0) (v := .pointer (some ⟨rb, 0, none⟩)) rfl (by kernel_rfl) (by kernel_rfl) (by kernel_rfl) (fun _ _ _ h => h) (.inl ⟨by kernel_rfl, fun W_ hS => ?_⟩) ⟨HDR.out, fun h => by cases h⟩ ?_
        · simp [execOp, Act.eval, Act.put, go_sem]
        try simp only [Act.put]
        try go_simp
        refine wpAnyN_take false (i := 1) (v := .agg #[.slice A1 n1 c1, .int .i64 S1.num, .int .i64 S1.den]) rfl (by kernel_rfl) (by kernel_rfl) (by kernel_rfl) (fun _ _ _ h => h) (.inl ⟨by kernel_rfl, fun W_ hS => ?_⟩) ⟨HDR.out, fun h => by cases h⟩ ?_
        · simp [execOp, Act.eval, Act.put, go_sem, (HBX.out W_ hS.1).1, (HBX.out W_ hS.1).2.1, (HBX.out W_ hS.1).2.2]
        try simp only [Act.put]
        try go_simp
        refine wpAnyN_take false (i := 2) (v := .pointer (some ⟨rb, 0, none⟩)) rfl (by kernel_rfl) (by kernel_rfl) (by kernel_rfl) (fun _ _ _ h => h) (.inl ⟨by kernel_rfl, fun W_ hS => ?_⟩) ⟨HDR.out, fun h => by cases h⟩ ?_
        · simp [execOp, Act.eval, Act.put, go_sem]
        try simp only [Act.put]
        try go_simp
        refine wpAnyN_step (i := 3) (by kernel_rfl) rfl (by kernel_rfl) ?_
        intro K' hK
        try simp only [Act.put]
        go_simp
        refine hK.out _ _ (((HDR.out.set (p := ⟨N + 2, 0, none⟩) (.inl rfl) _).set (p := ⟨N + 2, 1, none⟩) (.inl rfl) _).set (p := ⟨N + 2, 2, none⟩) (.inl rfl) _) (fun _ _ => trivial) ?_
        refine wpAnyN_take false (i := 4) (v := .bool true) rfl (by kernel_rfl) (by kernel_rfl) (by kernel_rfl) (fun _ _ _ h => h) (.inl ⟨by kernel_rfl, fun W_ hS => ?_⟩) ⟨((HDR.out.set (p := ⟨N + 2, 0, none⟩) (.inl rfl) _).set (p := ⟨N + 2, 1, none⟩) (.inl rfl) _).set (p := ⟨N + 2, 2, none⟩) (.inl rfl) _, fun h => by cases h⟩ ?_
        · simp [execOp, Act.eval, Act.put, go_sem]
        try simp only [Act.put]
        try go_simp
        refine wpAnyN_done (by kernel_rfl) ?_
        try simp only [Act.put]
        try go_simp
        go_wp2
        refine bodyPost_ret (v := .tuple #[.pointer (some ⟨rb, 0, none⟩), .agg #[.slice A1 n1 c1, .int .i64 S1.num, .int .i64 S1.den], .bool true]) (results_tmp_row_tmp rfl _ _ (N + 2) _ _ _ _ rfl HDN.out.1 Try.underlying30 rfl (Try.sizeRr _ _ _) _ _ rfl rfl) rfl ?_
        exact HDN.out.2
end Go.Proofs.Ytanchjcifhbllaa
