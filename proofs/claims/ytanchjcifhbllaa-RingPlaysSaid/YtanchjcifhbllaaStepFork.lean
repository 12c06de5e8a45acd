/-
  A step that forks.
  Conditions: the numbers fit.
-/
import Derived.Test.YtanchjcifhbllaaStp
set_option linter.unusedVariables false
set_option linter.unusedSimpArgs false
namespace Go.Proofs.Ytanchjcifhbllaa
open Go.RowKit

set_option maxRecDepth 100000 in
set_option maxHeartbeats 4000000 in
theorem step_fork {B : Nat} {W0 W : World} {rb : Nat} {mv v : Value} {P S : Rg} {C K : Nat} (id wt : Int) (nu : Nat) (hh : Held B W0 W rb mv P) (hr : RowR W v S.l) (hsim : Sim K S P) (hf : Fit C S) (hC : C ≤ 9000) :
    Calls Try.prog 12 #[.pointer (some ⟨rb, 0, none⟩), refV v S, .agg #[.int .i64 6, .int .i64 id, .int .i64 wt, .int .u8 nu]] W (StepPost B W0 W rb mv C) := by
  have HS := Lib.hid (hf.small (show C ≤ 10000 by omega))
  have HSIM := Lib.hid hsim
  have HFIT := Lib.hid hf
  have HOK := Lib.hid hh.ok
  obtain ⟨A, c, rfl, hat⟩ := hr.lies
  obtain ⟨N, hN⟩ : ∃ N, W.heap.size = N := ⟨_, rfl⟩
  obtain ⟨n, hn⟩ : ∃ n, S.l.length = n := ⟨_, rfl⟩
  rw [hn] at hr ⊢
  obtain ⟨w3, hw3⟩ : ∃ w3, ((W.alloc (.cells #[.slice A n c, .int .i64 S.num, .int .i64 S.den] 30)).alloc (.cells #[.int .i64 6, .int .i64 id, .int .i64 wt, .int .u8 nu] 35)).alloc (.cells #[.slice none 0 0, .int .i64 0, .int .i64 0] 30) = w3 := ⟨_, rfl⟩
  have HX : Hid (Stp B W0 W w3 N (.int .i64 6) (.int .i64 id) (.int .i64 wt) (.int .u8 nu) rb mv mv P (.slice A n c) S.num S.den S.l) := by
    refine Stp.new hh hr ?_
    rw [← hw3, ← hN]
    exact box3_new W _ _ _ _ _ _ _
  obtain ⟨r0, r1, r2, _⟩ := three_heads HX.out.ring
  obtain ⟨a0, a1, a2, a3, _⟩ := four_rm HX.out.act
  have mixed : Try.prog.follows .mixedOrders = true := by kernel_rfl
  have HCC := Lib.hid hC
  have HNN := Lib.hid hn
  unfold refV
  clear hh hr hsim hf hat hn hC
  have HFO := Lib.hid (fork_any w3 rb mv P HX.out.held.lies HOK.out)
  obtain ⟨q, hq, _⟩ := pick_same HSIM.out HFIT.out
  have HP := Lib.hid (fun (w : World) (h : RingAt w rb mv P) => pick_any w rb mv P h HOK.out)
  rw [hq] at HP
  clear hq
  go_enter Try.func12, Try.ntmps12
  go_wp2_with fail
  clear hw3 hN
  refine HFO.out.mono ?_
  rintro e w4 ⟨rf, mf, rfl, hfa, hf1, hf2, hb⟩
  have HX4 := Lib.hid (HX.out.below hb)
  have HFK4 : Hid (Held B W0 w4 rf mf P) := ⟨hfa, HOK.out, by have := HX.out.held.bel.size; have := HX.out.held.hS; omega, fun k hk => by have := hf2 k hk; have := HX.out.held.bel.size; have := HX.out.held.hS; omega, HX4.out.held.bel, HX4.out.held.hS⟩
  have HAS4 : Hid (Aside (Foot rf mf) w4 rb mv) := fun k hk => by
    refine ⟨hfa.foot hk, fun hf => ?_⟩
    have h1 := HX.out.held.lies.foot hf
    rcases hk with e | e
    · omega
    · have := hf2 k e; omega
  clear hfa hf1 hf2 hb
  go_wp2_with fail
  refine (HP.out _ HX4.out.held.lies).mono ?_
  intro e w5 hm
  obtain ⟨mv5, rfl, h5, ap5, gr5⟩ := HX4.out.mut hm HOK.out.pick
  obtain ⟨as5, kp5⟩ := HAS4.out.mut ap5 gr5
  have HX5 := Lib.hid h5
  have HAS5 := Lib.hid as5
  have HFK5 := Lib.hid (HFK4.out.keep h5.held.bel kp5)
  clear hm h5 ap5 gr5 as5 kp5
  have HJ := Lib.hid (join_any w5 rb mv5 _ 200 1 HX5.out.held.lies HX5.out.held.ok)
  go_wp2_with fail
  refine HJ.out.mono ?_
  intro e w6 hm
  obtain ⟨mv6, rfl, h6, ap6, gr6⟩ := HX5.out.mut hm (HX5.out.held.ok.call 0 200 1)
  obtain ⟨as6, kp6⟩ := HAS5.out.mut ap6 gr6
  have HX6 := Lib.hid h6
  have HFK6 := Lib.hid (HFK5.out.keep h6.held.bel kp6)
  clear hm h6 ap6 gr6 as6 kp6 r0 r1 r2 a0 a1 a2 a3
  go_upto_region 5 with fail
  have HBX : Hid (∀ w', Apart (fun k => k = N + 2) w6 w' → w'.cell? ⟨N, 0, none⟩ = some (.slice A n c) ∧ w'.cell? ⟨N, 1, none⟩ = some (.int .i64 S.num) ∧ w'.cell? ⟨N, 2, none⟩ = some (.int .i64 S.den)) := fun w' ha => by
    obtain ⟨b0, b1, b2, _⟩ := three_heads ((ha.block N (heap_lt HX6.out.ring) (by omega)).trans HX6.out.ring)
    exact ⟨b0, b1, b2⟩
  have HB6 : Hid (Below w6.heap.size w6 w6.drew) := below_drewN (Below.refl _ _) 1
  have HXD := Lib.hid (HX6.out.below HB6.out)
  have HDN := Lib.hid (HXD.out.done (S' := S) (C := C) (HFK6.out.below HB6.out) HXD.out.row HSIM.out HFIT.out (by omega))
  have HDR : Hid (Apart (fun k => k = N + 2) w6 w6.drew) := Apart.of_below HB6.out
  obtain ⟨o0, o1, o2, o3, o4, o5⟩ := three_heads HX6.out.res
  refine wp_region_N (S1 := fun w' => Apart (fun k => k = N + 2) w6 w') (S2 := fun W => True) (N := fun i => i != 99) (by kernel_rfl) ?_
  change wpAnyN _ _ _ _ _ _ _ 7 (Array.replicate 7 false) _ _
  refine wpAnyN_take false (i := 0) (v := .pointer (some ⟨rf, 0, none⟩)) rfl (by kernel_rfl) (by kernel_rfl) (by kernel_rfl) (fun _ _ _ h => h) (.inl ⟨by kernel_rfl, fun W_ hS => ?_⟩) ⟨HDR.out, fun h => by cases h⟩ ?_
  · simp [execOp, Act.eval, Act.put, go_sem]
  try simp only [Act.put]
  try go_simp
  refine wpAnyN_take false (i := 1) (v := .agg #[.slice A n c, .int .i64 S.num, .int .i64 S.den]) rfl (by kernel_rfl) (by kernel_rfl) (by kernel_rfl) (fun _ _ _ h => h) (.inl ⟨by kernel_rfl, fun W_ hS => ?_⟩) ⟨HDR.out, fun h => by cases h⟩ ?_
  · simp [execOp, Act.eval, Act.put, go_sem, (HBX.out W_ hS.1).1, (HBX.out W_ hS.1).2.1, (HBX.out W_ hS.1).2.2]
  try simp only [Act.put]
  try go_simp
  refine wpAnyN_take false (i := 2) (v := .pointer (some ⟨rf, 0, none⟩)) rfl (by kernel_rfl) (by kernel_rfl) (by kernel_rfl) (fun _ _ _ h => h) (.inl ⟨by kernel_rfl, fun W_ hS => ?_⟩) ⟨HDR.out, fun h => by cases h⟩ ?_
  · simp [execOp, Act.eval, Act.put, go_sem]
  try simp only [Act.put]
  try go_simp
  refine wpAnyN_take false (i := 3) (v := .bool true) rfl (by kernel_rfl) (by kernel_rfl) (by kernel_rfl) (fun _ _ _ h => h) (.inl ⟨by kernel_rfl, fun W_ hS => ?_⟩) ⟨HDR.out, fun h => by cases h⟩ ?_
  · simp [execOp, Act.eval, Act.put, go_sem]
  try simp only [Act.put]
  try go_simp
  refine wpAnyN_take false (i := 4) (v := .pointer (some ⟨rf, 0, none⟩)) rfl (by kernel_rfl) (by kernel_rfl) (by kernel_rfl) (fun _ _ _ h => h) (.inl ⟨by kernel_rfl, fun W_ hS => ?_⟩) ⟨HDR.out, fun h => by cases h⟩ ?_
  · simp [execOp, Act.eval, Act.put, go_sem]
  try simp only [Act.put]
  try go_simp
  refine wpAnyN_step (i := 5) (by kernel_rfl) rfl (by kernel_rfl) ?_
  intro K' hK
  try simp only [Act.put]
  go_simp
  refine hK.out _ _ (((HDR.out.set (p := ⟨N + 2, 0, none⟩) (.inl rfl) _).set (p := ⟨N + 2, 1, none⟩) (.inl rfl) _).set (p := ⟨N + 2, 2, none⟩) (.inl rfl) _) (fun _ _ => trivial) ?_
  refine wpAnyN_take false (i := 6) (v := .bool true) rfl (by kernel_rfl) (by kernel_rfl) (by kernel_rfl) (fun _ _ _ h => h) (.inl ⟨by kernel_rfl, fun W_ hS => ?_⟩) ⟨((HDR.out.set (p := ⟨N + 2, 0, none⟩) (.inl rfl) _).set (p := ⟨N + 2, 1, none⟩) (.inl rfl) _).set (p := ⟨N + 2, 2, none⟩) (.inl rfl) _, fun h => by cases h⟩ ?_
  · simp [execOp, Act.eval, Act.put, go_sem]
  try simp only [Act.put]
  try go_simp
  refine wpAnyN_done (by kernel_rfl) ?_
  try simp only [Act.put]
  try go_simp
  go_wp2
  refine bodyPost_ret (v := .tuple #[.pointer (some ⟨rf, 0, none⟩), .agg #[.slice A n c, .int .i64 S.num, .int .i64 S.den], .bool true]) (results_tmp_row_tmp rfl _ _ (N + 2) _ _ _ _ rfl HDN.out.1 Try.underlying30 rfl (Try.sizeRr _ _ _) _ _ rfl rfl) rfl ?_
  exact HDN.out.2
end Go.Proofs.Ytanchjcifhbllaa
