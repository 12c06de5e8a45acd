/-
  A step that calls.
  Conditions: the numbers fit.
-/
import Derived.Test.YtanchjcifhbllaaStp
set_option linter.unusedVariables false
set_option linter.unusedSimpArgs false
namespace Go.Proofs.Ytanchjcifhbllaa
open Go.RowKit

set_option maxRecDepth 100000 in
set_option maxHeartbeats 4000000 in
theorem step_call {B : Nat} {W0 W : World} {rb : Nat} {mv v : Value} {P S : Rg} {C K : Nat} (kd id wt : Int) (nu : Nat) (hh : Held B W0 W rb mv P) (hr : RowR W v S.l) (hsim : Sim K S P) (hf : Fit C S) (hC : C ≤ 9000) (h5 : kd ≠ 5) (h6 : kd ≠ 6) :
    Calls Try.prog 12 #[.pointer (some ⟨rb, 0, none⟩), refV v S, .agg #[.int .i64 kd, .int .i64 id, .int .i64 wt, .int .u8 nu]] W (StepPost B W0 W rb mv C) := by
  have HS := Lib.hid (hf.small (show C ≤ 10000 by omega))
  have HSIM := Lib.hid hsim
  have HFIT := Lib.hid hf
  have HOK := Lib.hid hh.ok
  obtain ⟨A, c, rfl, hat⟩ := hr.lies
  obtain ⟨N, hN⟩ : ∃ N, W.heap.size = N := ⟨_, rfl⟩
  obtain ⟨n, hn⟩ : ∃ n, S.l.length = n := ⟨_, rfl⟩
  rw [hn] at hr ⊢
  obtain ⟨w3, hw3⟩ : ∃ w3, ((W.alloc (.cells #[.slice A n c, .int .i64 S.num, .int .i64 S.den] 30)).alloc (.cells #[.int .i64 kd, .int .i64 id, .int .i64 wt, .int .u8 nu] 35)).alloc (.cells #[.slice none 0 0, .int .i64 0, .int .i64 0] 30) = w3 := ⟨_, rfl⟩
  have HX : Hid (Stp B W0 W w3 N (.int .i64 kd) (.int .i64 id) (.int .i64 wt) (.int .u8 nu) rb mv mv P (.slice A n c) S.num S.den S.l) := by
    refine Stp.new hh hr ?_
    rw [← hw3, ← hN]
    exact box3_new W _ _ _ _ _ _ _
  obtain ⟨r0, r1, r2, _⟩ := three_heads HX.out.ring
  obtain ⟨a0, a1, a2, a3, _⟩ := four_rm HX.out.act
  have mixed : Try.prog.follows .mixedOrders = true := by kernel_rfl
  have HCC := Lib.hid hC
  have HNN := Lib.hid hn
  unfold refV
  clear hh hr hsim hf hat hn hC
  have q5 : (kd == 5) = false := beq_eq_false_iff_ne.2 h5
  have q5' : (kd != 5) = true := by simp [h5]
  have q6 : (kd == 6) = false := beq_eq_false_iff_ne.2 h6
  clear h5 h6
  have HWA := Lib.hid (want_any w3 _ S kd id wt nu HX.out.row HS.out HFIT.out.srt)
  have HCA := Lib.hid (fun (w : World) (h : RingAt w rb mv P) => call_any w rb mv P kd id wt nu h HOK.out)
  obtain ⟨he, hs2⟩ := HSIM.out.call HFIT.out kd id wt
  have HS2 := Lib.hid hs2
  have HF2 := Lib.hid (HFIT.out.call kd id wt).1
  have HO2 := Lib.hid (HOK.out.call kd id wt)
  unfold callV at HCA
  rw [he] at HCA
  clear he hs2
  obtain ⟨er, her⟩ : ∃ er, (callA S kd id wt).1 = er := ⟨_, rfl⟩
  obtain ⟨S2, hS2⟩ : ∃ S2, (callA S kd id wt).2 = S2 := ⟨_, rfl⟩
  obtain ⟨P2, hP2⟩ : ∃ P2, (callA P kd id wt).2 = P2 := ⟨_, rfl⟩
  rw [her] at HCA HWA
  rw [hS2] at HWA HS2 HF2
  rw [hP2] at HCA HS2 HO2
  unfold refV at HWA
  clear her hS2 hP2
  go_enter Try.func12, Try.ntmps12
  go_wp2_with fail
  clear hw3 hN
  refine HWA.out.mono ?_
  rintro e w4 ⟨v4, rfl, hr4, hb4⟩
  have HX4 := Lib.hid (HX.out.below hb4)
  obtain ⟨A4, c4, rfl, _⟩ := hr4.lies
  have HR4 := Lib.hid hr4
  unfold refV
  obtain ⟨n4, hn4⟩ : ∃ n4, S2.l.length = n4 := ⟨_, rfl⟩
  rw [hn4] at HR4 ⊢
  have HN4 := Lib.hid hn4
  clear hr4 hb4 r0 r1 r2 a0 a1 a2 a3 hn4
  go_upto_region 8 with fail
  obtain ⟨N3, hN3⟩ : ∃ N3, w4.heap.size = N3 := ⟨_, rfl⟩
  rw [hN3]
  obtain ⟨w5, hw5⟩ : ∃ w5, w4.alloc (.cells #[.slice A4 n4 c4, .int .i64 S2.num, .int .i64 S2.den] 30) = w5 := ⟨_, rfl⟩
  rw [hw5]
  have hb5 : Below w4.heap.size w4 w5 := by rw [← hw5]; exact (Below.refl _ w4).alloc (Nat.le_refl _) _
  have HN5 : Hid (w5.heap[N3]? = some (.cells #[.slice A4 n4 c4, .int .i64 S2.num, .int .i64 S2.den] 30 (0, 0))) := by rw [← hw5]; exact alloc_block w4 _ hN3
  have HX5 := Lib.hid (HX4.out.below hb5)
  have HNE : Hid (N3 ≠ N + 2) := by have := heap_lt HX4.out.res; show _ ≠ _; omega
  have HR5 : Hid (RowR w5 (.slice A4 n4 c4) S2.l) := RowR.below HR4.out hb5
  clear hw5 hN3 hb5
  have HNF := Lib.hid (HX5.out.held.lies.notFoot HX5.out.act (by decide) (by decide))
  have HNG := Lib.hid (HX5.out.held.lies.notFoot HN5.out (by decide) (by decide))
  have HBX : Hid (∀ w', Apart (fun k => k = N + 2 ∨ Foot rb mv k) w5 w' → (w'.cell? ⟨N3, 0, none⟩ = some (.slice A4 n4 c4) ∧ w'.cell? ⟨N3, 1, none⟩ = some (.int .i64 S2.num) ∧ w'.cell? ⟨N3, 2, none⟩ = some (.int .i64 S2.den)) ∧ (w'.cell? ⟨N + 1, 0, none⟩ = some (.int .i64 kd) ∧ w'.cell? ⟨N + 1, 1, none⟩ = some (.int .i64 id) ∧ w'.cell? ⟨N + 1, 2, none⟩ = some (.int .i64 wt) ∧ w'.cell? ⟨N + 1, 3, none⟩ = some (.int .u8 nu))) := fun w' ha => by
    obtain ⟨b0, b1, b2, _⟩ := three_heads ((ha.block N3 (heap_lt HN5.out) (fun h => h.elim (fun e => HNE.out e) (fun e => HNG.out e))).trans HN5.out)
    obtain ⟨d0, d1, d2, d3, _⟩ := four_rm ((ha.block (N + 1) (heap_lt HX5.out.act) (fun h => h.elim (fun e => by omega) (fun e => HNF.out e))).trans HX5.out.act)
    exact ⟨⟨b0, b1, b2⟩, d0, d1, d2, d3⟩
  have HB5 : Hid (Below w5.heap.size w5 w5.drew) := below_drewN (Below.refl _ _) 1
  have HXD := Lib.hid (HX5.out.below HB5.out)
  have HDR : Hid (Apart (fun k => k = N + 2 ∨ Foot rb mv k) w5 w5.drew) := Apart.of_below HB5.out
  refine wp_region_N (S1 := fun w' => Apart (fun k => k = N + 2 ∨ Foot rb mv k) w5 w') (S2 := fun W => True) (N := fun i => i != 99) (by kernel_rfl) ?_
  change wpAnyN _ _ _ _ _ _ _ 10 (Array.replicate 10 false) _ _
  refine wpAnyN_take false (i := 0) (v := .pointer (some ⟨rb, 0, none⟩)) rfl (by kernel_rfl) (by kernel_rfl) (by kernel_rfl) (fun _ _ _ h => h) (.inl ⟨by kernel_rfl, fun W_ hS => ?_⟩) ⟨HDR.out, fun h => by cases h⟩ ?_
  · simp [execOp, Act.eval, Act.put, go_sem]
  try simp only [Act.put]
  try go_simp
  refine wpAnyN_take false (i := 1) (v := .agg #[.slice A4 n4 c4, .int .i64 S2.num, .int .i64 S2.den]) rfl (by kernel_rfl) (by kernel_rfl) (by kernel_rfl) (fun _ _ _ h => h) (.inl ⟨by kernel_rfl, fun W_ hS => ?_⟩) ⟨HDR.out, fun h => by cases h⟩ ?_
  · simp [execOp, Act.eval, Act.put, go_sem, (HBX.out W_ hS.1).1.1, (HBX.out W_ hS.1).1.2.1, (HBX.out W_ hS.1).1.2.2]
  try simp only [Act.put]
  try go_simp
  refine wpAnyN_take false (i := 2) (v := .pointer (some ⟨rb, 0, none⟩)) rfl (by kernel_rfl) (by kernel_rfl) (by kernel_rfl) (fun _ _ _ h => h) (.inl ⟨by kernel_rfl, fun W_ hS => ?_⟩) ⟨HDR.out, fun h => by cases h⟩ ?_
  · simp [execOp, Act.eval, Act.put, go_sem]
  try simp only [Act.put]
  try go_simp
  refine wpAnyN_take false (i := 3) (v := .agg #[.int .i64 kd, .int .i64 id, .int .i64 wt, .int .u8 nu]) rfl (by kernel_rfl) (by kernel_rfl) (by kernel_rfl) (fun _ _ _ h => h) (.inl ⟨by kernel_rfl, fun W_ hS => ?_⟩) ⟨HDR.out, fun h => by cases h⟩ ?_
  · simp [execOp, Act.eval, Act.put, go_sem, (HBX.out W_ hS.1).2.1, (HBX.out W_ hS.1).2.2.1, (HBX.out W_ hS.1).2.2.2.1, (HBX.out W_ hS.1).2.2.2.2]
  try simp only [Act.put]
  try go_simp
  refine wpAnyN_take false (i := 5) (v := .int .i64 er) rfl (by kernel_rfl) (by kernel_rfl) (by kernel_rfl) (fun _ _ _ h => h) (.inl ⟨by kernel_rfl, fun W_ hS => ?_⟩) ⟨HDR.out, fun h => by cases h⟩ ?_
  · simp [execOp, Act.eval, Act.put, go_sem]
  try simp only [Act.put]
  try go_simp
  refine wpAnyN_step (i := 4) (by kernel_rfl) rfl (by kernel_rfl) ?_
  intro K' hK
  try simp only [Act.put]
  go_simp
  refine (HCA.out _ HXD.out.held.lies).mono ?_
  intro e w6 hm
  obtain ⟨mv6, rfl, h6, ap6, gr6⟩ := HXD.out.mut hm HO2.out
  have HX6 := Lib.hid h6
  have HR6 := Lib.hid (row_apart (HR5.out.below HB5.out) ap6 (fun k hk => HXD.out.held.lies.notRow (HR5.out.below HB5.out) hk))
  have HA6 : Hid (Apart (fun k => k = N + 2 ∨ Foot rb mv k) w5 w6) := HDR.out.trans ap6 (fun x _ hf => .inr hf)
  have HDN := Lib.hid (h6.done (S' := S2) (C := C) h6.held HR6.out HS2.out HF2.out (by omega))
  obtain ⟨o0, o1, o2, o3, o4, o5⟩ := three_heads h6.res
  clear hm h6 ap6 gr6
  refine hK.out _ _ HA6.out (fun _ _ => trivial) ?_
  refine wpAnyN_take false (i := 6) (v := .bool true) rfl (by kernel_rfl) (by kernel_rfl) (by kernel_rfl) (fun _ _ _ h => h) (.inl ⟨by kernel_rfl, fun W_ hS => ?_⟩) ⟨HA6.out, fun h => by cases h⟩ ?_
  · simp [execOp, Act.eval, Act.put, go_sem]
  try simp only [Act.put]
  try go_simp
  refine wpAnyN_take false (i := 7) (v := .pointer (some ⟨rb, 0, none⟩)) rfl (by kernel_rfl) (by kernel_rfl) (by kernel_rfl) (fun _ _ _ h => h) (.inl ⟨by kernel_rfl, fun W_ hS => ?_⟩) ⟨HA6.out, fun h => by cases h⟩ ?_
  · simp [execOp, Act.eval, Act.put, go_sem]
  try simp only [Act.put]
  try go_simp
  refine wpAnyN_step (i := 8) (by kernel_rfl) rfl (by kernel_rfl) ?_
  intro K' hK
  try simp only [Act.put]
  go_simp
  refine hK.out _ _ (((HA6.out.set (p := ⟨N + 2, 0, none⟩) (.inl (.inl rfl)) _).set (p := ⟨N + 2, 1, none⟩) (.inl (.inl rfl)) _).set (p := ⟨N + 2, 2, none⟩) (.inl (.inl rfl)) _) (fun _ _ => trivial) ?_
  refine wpAnyN_take false (i := 9) (v := .bool true) rfl (by kernel_rfl) (by kernel_rfl) (by kernel_rfl) (fun _ _ _ h => h) (.inl ⟨by kernel_rfl, fun W_ hS => ?_⟩) ⟨((HA6.out.set (p := ⟨N + 2, 0, none⟩) (.inl (.inl rfl)) _).set (p := ⟨N + 2, 1, none⟩) (.inl (.inl rfl)) _).set (p := ⟨N + 2, 2, none⟩) (.inl (.inl rfl)) _, fun h => by cases h⟩ ?_
  · simp [execOp, Act.eval, Act.put, go_sem]
  try simp only [Act.put]
  try go_simp
  refine wpAnyN_done (by kernel_rfl) ?_
  try simp only [Act.put]
  try go_simp
  go_wp2
  refine bodyPost_ret (v := .tuple #[.pointer (some ⟨rb, 0, none⟩), .agg #[.slice A4 n4 c4, .int .i64 S2.num, .int .i64 S2.den], .bool true]) (results_tmp_row_tmp rfl _ _ (N + 2) _ _ _ _ rfl HDN.out.1 Try.underlying30 rfl (Try.sizeRr _ _ _) _ _ rfl rfl) rfl ?_
  exact HDN.out.2
end Go.Proofs.Ytanchjcifhbllaa
