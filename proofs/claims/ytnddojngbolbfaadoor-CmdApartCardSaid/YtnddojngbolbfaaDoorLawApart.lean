/-
  CmdApart walked.
  Conditions: start-up's two variables are as laid.
-/
import Derived.Test.YtnddojngbolbfaaDoorAwake11
import Derived.Test.YtnddojngbolbfaaDoorCmdBackMath
set_option linter.unusedVariables false
namespace Go.Proofs.YtnddojngbolbfaaDoor
open Go.RowKit Go.Extern.Stop Go.Stop Go.Extern

set_option maxRecDepth 100000 in
set_option maxHeartbeats 8000000 in
theorem apart_law (c d : Cmd8) (w : World) (he : Env w) :
    Calls Tryd.prog 7 #[.agg (cmdA c), .agg (cmdA d)] w (Ans true w) := by
  have hb1 : Below w.heap.size w (w.alloc (.cells (cmdA c) 23)) := (Below.refl _ _).alloc (Nat.le_refl _) _
  have hb2 : Below (w.alloc (.cells (cmdA c) 23)).heap.size (w.alloc (.cells (cmdA c) 23)) ((w.alloc (.cells (cmdA c) 23)).alloc (.cells (cmdA d) 23)) := (Below.refl _ _).alloc (Nat.le_refl _) _
  have hc : CmdAt (w.alloc (.cells (cmdA c) 23)) w.heap.size c := World.alloc_heap_new _ _
  have hd : CmdAt ((w.alloc (.cells (cmdA c) 23)).alloc (.cells (cmdA d) 23)) (w.heap.size + 1) d := new_at _ _ (World.size_alloc _ _)
  have HC := Lib.hid (hc.keep hb2)
  have HD := Lib.hid hd
  have HBB := Lib.hid (hb1.trans (hb2.mono hb1.size))
  have HEB := Lib.hid (he.later HBB.out)
  clear he hb1 hb2 hc hd
  go_enter Tryd.func7, Tryd.ntmps7
  go_upto_region 1 with fail
  generalize (w.alloc (.cells (cmdA c) 23)).alloc (.cells (cmdA d) 23) = wb at *
  obtain ⟨d0, d1, d2, d3, d4, d5, d6, d7⟩ := HC.out.eight
  go_wp2_with fail
  refine (encode_law c wb HEB.out.e).mono ?_
  rintro e w1 ⟨v1, u1, rfl, hb1, hor1⟩
  have HB1 := Lib.hid hb1
  have HC1 := Lib.hid (HC.out.keep hb1)
  have HD1 := Lib.hid (HD.out.keep hb1)
  obtain ⟨y0, y1, y2, y3, y4, y5, y6, y7⟩ := HD1.out.eight
  clear hb1 d0 d1 d2 d3 d4 d5 d6 d7
  go_wp2_with fail
  refine (encode_law d w1 (HEB.out.later HB1.out).e).mono ?_
  rintro e w3 ⟨v2, u2, rfl, hb3, hor2⟩
  have HB3 := Lib.hid (HB1.out.trans (hb3.mono HB1.out.size))
  have hn := fun W => run_neq_nil_nil (P := Tryd.prog) W 27 (by kernel_rfl)
  have hnh := fun W x => run_neq_held_nil (P := Tryd.prog) W 27 80 x (by kernel_rfl)
  clear y0 y1 y2 y3 y4 y5 y6 y7
  rcases hor1 with ⟨hck1, rfl, hown1⟩ | ⟨hck1, rfl, herr1⟩
  · rcases hor2 with ⟨hck2, rfl, hown2⟩ | ⟨hck2, rfl, herr2⟩
    · have HV1 := Lib.hid (hown1.bytes.keep hb3)
      have HV2 := Lib.hid hown2.bytes
      have HXY := Lib.hid (text_beq (encC_bytes hck1) (encC_bytes hck2) (p := eq8 c d) (encC_inj hck1 hck2))
      have HCX := Lib.hid (fun W h => conv_text (P := Tryd.prog) (dst := 9) (HV1.out.keep (W' := W) h) Tryd.underlying34 Tryd.underlying5 Tryd.underlying9)
      have HCY := Lib.hid (fun W h => conv_text (P := Tryd.prog) (dst := 9) (HV2.out.keep (W' := W) h) Tryd.underlying34 Tryd.underlying5 Tryd.underlying9)
      have HCA := Lib.hid (fun W h => ((HC1.out.keep hb3).keep (W' := W) h).eight)
      have HCB := Lib.hid (fun W h => ((HD1.out.keep hb3).keep (W' := W) h).eight)
      have HDR3 := Lib.hid (show Below wb.heap.size wb w3.drew from HB3.out.drew)
      generalize textOf (encC c) = X at *
      generalize textOf (encC d) = Y at *
      generalize hp : eq8 c d = p at *
      have HPP := Lib.hid hp
      clear hck1 hck2 hown1 hown2 hb3 hp
      go_wp2_with fail
      have HDR := Lib.hid (show Below w3.heap.size w3 w3.drew from below_drewN (Below.refl _ _) 1)
      refine wp_region_N (S1 := fun W => Below w3.heap.size w3 W) (S2 := fun _ => True) (N := fun _ => false) (by kernel_rfl) ?_
      change wpAnyN _ _ _ _ _ _ _ 13 (Array.replicate 13 false) _ _
      refine wpAnyN_take false (i := 0) (v := v1) rfl (by kernel_rfl) (by kernel_rfl) (by kernel_rfl) (fun _ _ _ h => h) (.inl ⟨by kernel_rfl, fun W hS => ?_⟩) ⟨HDR.out, fun h => by cases h⟩ ?_
      · simp [execOp, Act.eval, go_sem]
      refine wpAnyN_take false (i := 1) (v := .string X) rfl (by kernel_rfl) (by kernel_rfl) (by kernel_rfl) (fun _ _ _ h => h) (.inl ⟨by kernel_rfl, fun W hS => ?_⟩) ⟨HDR.out, fun h => by cases h⟩ ?_
      · simp [execOp, Act.eval, Act.put, go_sem, HCX.out W hS.1]
      refine wpAnyN_take false (i := 2) (v := v2) rfl (by kernel_rfl) (by kernel_rfl) (by kernel_rfl) (fun _ _ _ h => h) (.inl ⟨by kernel_rfl, fun W hS => ?_⟩) ⟨HDR.out, fun h => by cases h⟩ ?_
      · simp [execOp, Act.eval, Act.put, go_sem]
      refine wpAnyN_take false (i := 3) (v := .string Y) rfl (by kernel_rfl) (by kernel_rfl) (by kernel_rfl) (fun _ _ _ h => h) (.inl ⟨by kernel_rfl, fun W hS => ?_⟩) ⟨HDR.out, fun h => by cases h⟩ ?_
      · simp [execOp, Act.eval, Act.put, go_sem, HCY.out W hS.1]
      refine wpAnyN_take false (i := 5) (v := .agg (cmdA c)) rfl (by kernel_rfl) (by kernel_rfl) (by kernel_rfl) (fun _ _ _ h => h) (.inl ⟨by kernel_rfl, fun W hS => ?_⟩) ⟨HDR.out, fun h => by cases h⟩ ?_
      · obtain ⟨d0, d1, d2, d3, d4, d5, d6, d7⟩ := HCA.out W hS.1
        simp [execOp, Act.eval, Act.put, go_sem, cmdA, d0, d1, d2, d3, d4, d5, d6, d7]
      refine wpAnyN_take false (i := 6) (v := .agg (cmdA d)) rfl (by kernel_rfl) (by kernel_rfl) (by kernel_rfl) (fun _ _ _ h => h) (.inl ⟨by kernel_rfl, fun W hS => ?_⟩) ⟨HDR.out, fun h => by cases h⟩ ?_
      · obtain ⟨d0, d1, d2, d3, d4, d5, d6, d7⟩ := HCB.out W hS.1
        simp [execOp, Act.eval, Act.put, go_sem, cmdA, d0, d1, d2, d3, d4, d5, d6, d7]
      refine wpAnyN_take false (i := 4) (v := .bool p) rfl (by kernel_rfl) (by kernel_rfl) (by kernel_rfl) (fun _ _ _ h => h) (.inl ⟨by kernel_rfl, fun W hS => ?_⟩) ⟨HDR.out, fun h => by cases h⟩ ?_
      · simp [execOp, Act.eval, Act.put, go_sem, HXY.out]
      refine wpAnyN_take false (i := 7) (v := .bool p) rfl (by kernel_rfl) (by kernel_rfl) (by kernel_rfl) (fun _ _ _ h => h) (.inl ⟨by kernel_rfl, fun W hS => ?_⟩) ⟨HDR.out, fun h => by cases h⟩ ?_
      · have hq := eq_cmd W c d
        rw [HPP.out] at hq
        have hgd : (eqGuard .eql 23 (.tmp 31) (.tmp 32) (.agg (cmdA c)) (.agg (cmdA d))).run Tryd.prog W = .ok () W := run_eqGuard_agg W _ _ _ _ _ _ (by kernel_rfl)
        have hb : (binOp .eql 23 (.agg (cmdA c)) (.agg (cmdA d))).run Tryd.prog W = .ok (.bool p) W := by rw [run_eql_struct, hq]; rfl
        trace_state
        simp [execOp, Act.eval, Act.put, Sem.run_bind, hgd, hb, Result.andThen]
      refine wpAnyN_step (i := 8) (by kernel_rfl) rfl (by kernel_rfl) ?_
      intro K' hK
      try simp only [Act.put]
      go_simp
      refine hK.out _ _ HDR.out (fun h => absurd h (by decide)) ?_
      refine wpAnyN_step (i := 9) (by kernel_rfl) rfl (by kernel_rfl) ?_
      intro K' hK
      try simp only [Act.put]
      go_simp
      refine hK.out _ _ HDR.out (fun h => absurd h (by decide)) ?_
      refine wpAnyN_step (i := 10) (by kernel_rfl) rfl (by kernel_rfl) ?_
      intro K' hK
      try simp only [Act.put]
      go_simp
      refine (awake_any w3.drew (HEB.out.later HDR3.out)).mono ?_
      rintro e w5 ⟨rfl, hb5⟩
      have HB5 := Lib.hid (HDR.out.trans hb5)
      clear hb5
      refine hK.out _ _ HB5.out (fun h => absurd h (by decide)) ?_
      refine wpAnyN_step (i := 11) (by kernel_rfl) rfl (by kernel_rfl) ?_
      intro K' hK
      try simp only [Act.put]
      go_simp
      refine hK.out _ _ HB5.out (fun h => absurd h (by decide)) ?_
      refine wpAnyN_step (i := 12) (by kernel_rfl) rfl (by kernel_rfl) ?_
      intro K' hK
      try simp only [Act.put]
      go_simp
      refine hK.out _ _ HB5.out (fun h => absurd h (by decide)) ?_
      refine wpAnyN_done (by kernel_rfl) ?_
      try simp only [Act.put]
      try go_simp
      go_wp2
      go_ret
      exact ⟨rfl, HBB.out.trans ((HB3.out.trans (HB5.out.mono HB3.out.size)).mono HBB.out.size)⟩
    · rcases herr2.cases with ⟨_, h⟩ | ⟨b2, rfl, _⟩
      · exact absurd h hck2
      clear hck1 hown1 hck2 herr2 hb3
      go_wp2_with fail
      refine (awake_any w3 (HEB.out.later HB3.out)).mono ?_
      rintro e w5 ⟨rfl, hb5⟩
      have HB5 := Lib.hid (HB3.out.trans (hb5.mono HB3.out.size))
      clear hb5
      go_wp2
      go_ret
      exact ⟨rfl, HBB.out.trans (HB5.out.mono HBB.out.size)⟩
  · rcases herr1.cases with ⟨_, h⟩ | ⟨b1, rfl, _⟩
    · exact absurd h hck1
    clear hck1 herr1 hb3 hor2
    go_wp2_with fail
    refine (awake_any w3 (HEB.out.later HB3.out)).mono ?_
    rintro e w5 ⟨rfl, hb5⟩
    have HB5 := Lib.hid (HB3.out.trans (hb5.mono HB3.out.size))
    clear hb5
    go_wp2
    go_ret
    exact ⟨rfl, HBB.out.trans (HB5.out.mono HBB.out.size)⟩
end Go.Proofs.YtnddojngbolbfaaDoor
