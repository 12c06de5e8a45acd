/-
  CmdWrites walked.
  Conditions: start-up's two variables are as laid.
-/
import Derived.Test.YtnddojngbolbfaaDoorAwake11
import Derived.Test.YtnddojngbolbfaaDoorLinksLaw
import Derived.Test.YtnddojngbolbfaaDoorCmdBackMath
import Derived.Test.YtnddojngbolbfaaDoorRefEncode
set_option linter.unusedVariables false
namespace Go.Proofs.YtnddojngbolbfaaDoor
open Go.RowKit Go.Extern.Stop Go.Stop Go.Extern

set_option maxRecDepth 100000 in
set_option maxHeartbeats 8000000 in
theorem writes_law (c : Cmd8) (w : World) (he : Env w) :
    Calls Tryd.prog 4 #[.agg (cmdA c)] w (Ans true w) := by
  have hb : Below w.heap.size w (w.alloc (.cells (cmdA c) 23)) := (Below.refl _ _).alloc (Nat.le_refl _) _
  have hc : CmdAt (w.alloc (.cells (cmdA c) 23)) w.heap.size c := World.alloc_heap_new _ _
  have HC := Lib.hid hc
  have HBB := Lib.hid hb
  have HEB := Lib.hid (he.later hb)
  obtain ⟨d0, d1, d2, d3, d4, d5, d6, d7⟩ := hc.eight
  clear he hb hc
  go_enter Tryd.func4, Tryd.ntmps4
  go_upto_region 1 with fail
  generalize w.alloc (.cells (cmdA c) 23) = wb at *
  go_wp2_with fail
  refine (encode_law c wb HEB.out.e).mono ?_
  rintro e w1 ⟨v1, u1, rfl, hb1, hor⟩
  have HB1 := Lib.hid hb1
  have HC1 := Lib.hid (HC.out.keep hb1)
  obtain ⟨y0, y1, y2, y3, y4, y5, y6, y7⟩ := HC1.out.eight
  clear hb1 d0 d1 d2 d3 d4 d5 d6 d7
  go_wp2_with fail
  refine (refCheck_any c w1).mono ?_
  rintro e w3 ⟨l3, rfl, hk3, hb3⟩
  have HB3 := Lib.hid (HB1.out.trans (hb3.mono HB1.out.size))
  have HC3 := Lib.hid (fun W h => ((HC1.out.keep hb3).keep (W' := W) h).eight)
  have HK3 := Lib.hid hk3
  obtain ⟨A3, c3, rfl, _, _⟩ := hk3
  rcases hor with ⟨hck, rfl, hown⟩ | ⟨hck, rfl, herr⟩
  · have HCK := Lib.hid hck
    have HV3 := Lib.hid (hown.bytes.keep hb3)
    have hE := fun W => run_eql_nil_nil (P := Tryd.prog) W 27 (by kernel_rfl)
    have hl0 : (checkK c).length = 0 := by rw [hck]; rfl
    rw [hl0] at *
    clear hck hown hb3 hl0 y0 y1 y2 y3 y4 y5 y6 y7
    go_wp2_with fail
    have HDR := Lib.hid (show Below w3.heap.size w3 w3.drew from below_drewN (Below.refl _ _) 1)
    refine wp_region_N (S1 := fun W => Below w3.heap.size w3 W) (S2 := fun _ => True) (N := fun _ => false) (by kernel_rfl) ?_
    change wpAnyN _ _ _ _ _ _ _ 14 (Array.replicate 14 false) _ _
    refine wpAnyN_take false (i := 0) (v := v1) rfl (by kernel_rfl) (by kernel_rfl) (by kernel_rfl) (fun _ _ _ h => h) (.inl ⟨by kernel_rfl, fun W hS => ?_⟩) ⟨HDR.out, fun h => by cases h⟩ ?_
    · simp [execOp, Act.eval, go_sem]
    refine wpAnyN_take false (i := 2) (v := .agg (cmdA c)) rfl (by kernel_rfl) (by kernel_rfl) (by kernel_rfl) (fun _ _ _ h => h) (.inl ⟨by kernel_rfl, fun W hS => ?_⟩) ⟨HDR.out, fun h => by cases h⟩ ?_
    · obtain ⟨d0, d1, d2, d3, d4, d5, d6, d7⟩ := HC3.out W hS.1
      simp [execOp, Act.eval, Act.put, go_sem, cmdA, d0, d1, d2, d3, d4, d5, d6, d7]
    refine wpAnyN_take false (i := 1) (v := .string (textOf (encC c))) rfl (by kernel_rfl) (by kernel_rfl) (by kernel_rfl) (fun _ _ _ h => h) (.inl ⟨by kernel_rfl, fun W hS => ?_⟩) ⟨HDR.out, fun h => by cases h⟩ ?_
    · simp [execOp, Act.eval, Act.put, go_sem, conv_text (P := Tryd.prog) (dst := 9) (HV3.out.keep hS.1) Tryd.underlying34 Tryd.underlying5 Tryd.underlying9]
    refine wpAnyN_step (i := 3) (by kernel_rfl) rfl (by kernel_rfl) ?_
    intro K' hK
    try simp only [Act.put]
    go_simp
    refine (refEncode_any c _ HCK.out).mono ?_
    rintro e w4 ⟨v4, rfl, ho4, hb4⟩
    have e4 := conv_text (P := Tryd.prog) (dst := 9) ho4.bytes Tryd.underlying34 Tryd.underlying5 Tryd.underlying9
    have HB4 := Lib.hid (HDR.out.trans hb4)
    clear ho4 hb4
    refine hK.out _ _ HB4.out (fun h => absurd h (by decide)) ?_
    refine wpAnyN_step (i := 4) (by kernel_rfl) rfl (by kernel_rfl) ?_
    intro K' hK
    try simp only [Act.put]
    go_simp
    refine hK.out _ _ HB4.out (fun h => absurd h (by decide)) ?_
    refine wpAnyN_step (i := 5) (by kernel_rfl) rfl (by kernel_rfl) ?_
    intro K' hK
    try simp only [Act.put]
    go_simp
    refine hK.out _ _ HB4.out (fun h => absurd h (by decide)) ?_
    refine wpAnyN_step (i := 6) (by kernel_rfl) rfl (by kernel_rfl) ?_
    intro K' hK
    try simp only [Act.put]
    go_simp
    refine hK.out _ _ HB4.out (fun h => absurd h (by decide)) ?_
    refine wpAnyN_step (i := 7) (by kernel_rfl) rfl (by kernel_rfl) ?_
    intro K' hK
    try simp only [Act.put]
    go_simp
    refine hK.out _ _ HB4.out (fun h => absurd h (by decide)) ?_
    refine wpAnyN_step (i := 8) (by kernel_rfl) rfl (by kernel_rfl) ?_
    intro K' hK
    try simp only [Act.put]
    go_simp
    refine hK.out _ _ HB4.out (fun h => absurd h (by decide)) ?_
    refine wpAnyN_step (i := 9) (by kernel_rfl) rfl (by kernel_rfl) ?_
    intro K' hK
    try simp only [Act.put]
    go_simp
    refine hK.out _ _ HB4.out (fun h => absurd h (by decide)) ?_
    refine wpAnyN_step (i := 10) (by kernel_rfl) rfl (by kernel_rfl) ?_
    intro K' hK
    try simp only [Act.put]
    go_simp
    refine hK.out _ _ HB4.out (fun h => absurd h (by decide)) ?_
    refine wpAnyN_step (i := 11) (by kernel_rfl) rfl (by kernel_rfl) ?_
    intro K' hK
    try simp only [Act.put]
    go_simp
    refine (awake_any w4 (HEB.out.later ((HB3.out.trans (HB4.out.mono HB3.out.size))))).mono ?_
    rintro e w5 ⟨rfl, hb5⟩
    have HB5 := Lib.hid (HB4.out.trans (hb5.mono HB4.out.size))
    clear hb5
    refine hK.out _ _ HB5.out (fun h => absurd h (by decide)) ?_
    refine wpAnyN_step (i := 12) (by kernel_rfl) rfl (by kernel_rfl) ?_
    intro K' hK
    try simp only [Act.put]
    go_simp
    refine hK.out _ _ HB5.out (fun h => absurd h (by decide)) ?_
    refine wpAnyN_step (i := 13) (by kernel_rfl) rfl (by kernel_rfl) ?_
    intro K' hK
    try simp only [Act.put]
    go_simp
    refine hK.out _ _ HB5.out (fun h => absurd h (by decide)) ?_
    refine wpAnyN_done (by kernel_rfl) ?_
    try simp only [Act.put]
    try go_simp
    go_wp2
    go_ret
    exact ⟨rfl, HBB.out.trans ((HB3.out.trans (HB5.out.mono HB3.out.size)).mono HBB.out.size)⟩
  · have HER := Lib.hid (herr.keep hb3)
    have hl0 : 0 < (checkK c).length := List.length_pos_iff.2 hck
    have hlz : (0 : Int) < ((checkK c).length : Int) := by omega
    clear hck herr hb3 y0 y1 y2 y3 y4 y5 y6 y7
    generalize hn : (checkK c).length = n at *
    clear hn
    go_wp2_with fail
    refine (linksLaw_any u1 _ _ _ w3 HER.out HK3.out (HEB.out.later HB3.out).e (checkK_len c)).mono ?_
    rintro e w4 ⟨rfl, hb4⟩
    have HB4 := Lib.hid (HB3.out.trans (hb4.mono HB3.out.size))
    clear hb4
    go_wp2_with fail
    refine (awake_any w4 (HEB.out.later HB4.out)).mono ?_
    rintro e w5 ⟨rfl, hb5⟩
    have HB5 := Lib.hid (HB4.out.trans (hb5.mono HB4.out.size))
    clear hb5
    go_wp2
    go_ret
    exact ⟨rfl, HBB.out.trans (HB5.out.mono HBB.out.size)⟩
end Go.Proofs.YtnddojngbolbfaaDoor
