/-
  CmdChecks walked.
  Conditions: start-up's two variables are as laid.
-/
import Derived.Test.YtnddojngbolbfaaDoorAwake11
import Derived.Test.YtnddojngbolbfaaDoorLinksLaw
import Derived.Test.YtnddojngbolbfaaDoorCmdBackMath
set_option linter.unusedVariables false
namespace Go.Proofs.YtnddojngbolbfaaDoor
open Go.RowKit Go.Extern.Stop Go.Stop Go.Extern

theorem nameS_len (op : Int) : fieldsT op = none ∧ nameS op = ⟨#[120]⟩ ∧ fieldsN op = -1 ∨ (∃ fs, fieldsT op = some fs) ∧ ((nameS op).toList == [120]) = false ∧ fieldsN op = ((nameS op).size : Int) := by
  cases h : fieldsT op with
  | none =>
    left
    refine ⟨rfl, ?_, ?_⟩
    · unfold nameS; rw [h]
    · unfold fieldsN; rw [h]
  | some fs =>
    right
    refine ⟨⟨fs, rfl⟩, nameS_x h, ?_⟩
    rw [nameS_size h]
    unfold fieldsN
    rw [h]

set_option maxRecDepth 100000 in
set_option maxHeartbeats 8000000 in
theorem checks_law (c : Cmd8) (op : Int) (w : World) (he : Env w) :
    Calls Tryd.prog 3 #[.agg (cmdA c), .int .i64 op] w (Ans true w) := by
  have hb : Below w.heap.size w (w.alloc (.cells (cmdA c) 23)) := (Below.refl _ _).alloc (Nat.le_refl _) _
  have hc : CmdAt (w.alloc (.cells (cmdA c) 23)) w.heap.size c := World.alloc_heap_new _ _
  have HC := Lib.hid (fun W h => (hc.keep (W' := W) h).eight)
  have HBB := Lib.hid hb
  have HEB := Lib.hid (he.later hb)
  have HN := Lib.hid (fun W => names_any op W)
  clear he hb hc
  rcases nameS_len op with ⟨hf, hs, hn⟩ | ⟨⟨fs, hf⟩, hs, hn⟩
  · rw [hs] at HN
    have HFN := Lib.hid hn
    clear hf hs hn
    go_enter Tryd.func3, Tryd.ntmps3
    go_upto_region 1 with fail
    generalize w.alloc (.cells (cmdA c) 23) = wb at *
    go_wp2_with fail
    refine (HN.out _).mono ?_
    rintro e w' ⟨rfl, rfl⟩
    go_wp2_with fail
    refine (HN.out _).mono ?_
    rintro e w' ⟨rfl, rfl⟩
    go_wp2_with fail
    rw [← HFN.out]
    have HDR := Lib.hid (show Below wb.heap.size wb wb.drew from below_drewN (Below.refl _ _) 1)
    refine wp_region_N (S1 := fun W => Below wb.heap.size wb W) (S2 := fun _ => True) (N := fun _ => false) (by kernel_rfl) ?_
    change wpAnyN _ _ _ _ _ _ _ 15 (Array.replicate 15 false) _ _
    refine wpAnyN_take false (i := 0) (v := .agg (cmdA c)) rfl (by kernel_rfl) (by kernel_rfl) (by kernel_rfl) (fun _ _ _ h => h) (.inl ⟨by kernel_rfl, fun W hS => ?_⟩) ⟨HDR.out, fun h => by cases h⟩ ?_
    · obtain ⟨d0, d1, d2, d3, d4, d5, d6, d7⟩ := HC.out W hS.1
      simp [execOp, Act.eval, go_sem, cmdA, d0, d1, d2, d3, d4, d5, d6, d7]
    refine wpAnyN_take false (i := 2) (v := .agg (cmdA c)) rfl (by kernel_rfl) (by kernel_rfl) (by kernel_rfl) (fun _ _ _ h => h) (.inl ⟨by kernel_rfl, fun W hS => ?_⟩) ⟨HDR.out, fun h => by cases h⟩ ?_
    · obtain ⟨d0, d1, d2, d3, d4, d5, d6, d7⟩ := HC.out W hS.1
      simp [execOp, Act.eval, Act.put, go_sem, cmdA, d0, d1, d2, d3, d4, d5, d6, d7]
    refine wpAnyN_step (i := 1) (by kernel_rfl) rfl (by kernel_rfl) ?_
    intro K' hK
    try simp only [Act.put]
    go_simp
    refine (check_law c _ (HEB.out.later (Below.refl _ _).drew).e).mono ?_
    rintro e w2 ⟨v2, rfl, he2, hb2⟩
    have HE2 := Lib.hid he2
    have HB2 := Lib.hid (HDR.out.trans hb2)
    clear he2 hb2
    refine hK.out _ _ HB2.out (fun h => absurd h (by decide)) ?_
    refine wpAnyN_step (i := 3) (by kernel_rfl) rfl (by kernel_rfl) ?_
    intro K' hK
    try simp only [Act.put]
    go_simp
    refine (refCheck_any c w2).mono ?_
    rintro e w3 ⟨l3, rfl, hk3, hb3⟩
    have HE3 := Lib.hid (HE2.out.keep hb3)
    have HK3 := Lib.hid hk3
    have HB3 := Lib.hid (HB2.out.trans (hb3.mono HB2.out.size))
    clear hk3 hb3
    refine hK.out _ _ HB3.out (fun h => absurd h (by decide)) ?_
    refine wpAnyN_step (i := 4) (by kernel_rfl) rfl (by kernel_rfl) ?_
    intro K' hK
    try simp only [Act.put]
    go_simp
    refine (linksLaw_any v2 l3 _ _ w3 HE3.out HK3.out (HEB.out.later HB3.out).e (checkK_len c)).mono ?_
    rintro e w4 ⟨rfl, hb4⟩
    have HB4 := Lib.hid (HB3.out.trans (hb4.mono HB3.out.size))
    clear hb4
    refine hK.out _ _ HB4.out (fun h => absurd h (by decide)) ?_
    refine wpAnyN_step (i := 5) (by kernel_rfl) rfl (by kernel_rfl) ?_
    intro K' hK
    try simp only [Act.put]
    go_simp
    refine hK.out _ _ HB4.out (fun h => absurd h (by decide)) ?_
    refine wpAnyN_take false (i := 6) (v := .int .i64 op) rfl (by kernel_rfl) (by kernel_rfl) (by kernel_rfl) (fun _ _ _ h => h) (.inl ⟨by kernel_rfl, fun W hS => ?_⟩) ⟨HB4.out, fun h => by cases h⟩ ?_
    · simp [execOp, Act.eval, go_sem]
    refine wpAnyN_take false (i := 8) (v := .int .i64 (fieldsN op)) rfl (by kernel_rfl) (by kernel_rfl) (by kernel_rfl) (fun _ _ _ h => h) (.inl ⟨by kernel_rfl, fun W hS => ?_⟩) ⟨HB4.out, fun h => by cases h⟩ ?_
    · simp [execOp, Act.eval, Act.put, go_sem]
    refine wpAnyN_step (i := 7) (by kernel_rfl) rfl (by kernel_rfl) ?_
    intro K' hK
    try simp only [Act.put]
    go_simp
    refine (fields_law op w4).mono ?_
    rintro e w5 ⟨rfl, hb5⟩
    have HB5 := Lib.hid (HB4.out.trans (hb5.mono HB4.out.size))
    clear hb5
    refine hK.out _ _ HB5.out (fun h => absurd h (by decide)) ?_
    refine wpAnyN_step (i := 9) (by kernel_rfl) rfl (by kernel_rfl) ?_
    intro K' hK
    try simp only [Act.put]
    go_simp
    refine hK.out _ _ HB5.out (fun h => absurd h (by decide)) ?_
    refine wpAnyN_step (i := 10) (by kernel_rfl) rfl (by kernel_rfl) ?_
    intro K' hK
    try simp only [Act.put]
    go_simp
    refine hK.out _ _ HB5.out (fun h => absurd h (by decide)) ?_
    refine wpAnyN_step (i := 11) (by kernel_rfl) rfl (by kernel_rfl) ?_
    intro K' hK
    try simp only [Act.put]
    go_simp
    refine hK.out _ _ HB5.out (fun h => absurd h (by decide)) ?_
    refine wpAnyN_step (i := 12) (by kernel_rfl) rfl (by kernel_rfl) ?_
    intro K' hK
    try simp only [Act.put]
    go_simp
    refine (awake_any w5 (HEB.out.later HB5.out)).mono ?_
    rintro e w6 ⟨rfl, hb6⟩
    have HB6 := Lib.hid (HB5.out.trans (hb6.mono HB5.out.size))
    clear hb6
    refine hK.out _ _ HB6.out (fun h => absurd h (by decide)) ?_
    refine wpAnyN_step (i := 13) (by kernel_rfl) rfl (by kernel_rfl) ?_
    intro K' hK
    try simp only [Act.put]
    go_simp
    refine hK.out _ _ HB6.out (fun h => absurd h (by decide)) ?_
    refine wpAnyN_step (i := 14) (by kernel_rfl) rfl (by kernel_rfl) ?_
    intro K' hK
    try simp only [Act.put]
    go_simp
    refine hK.out _ _ HB6.out (fun h => absurd h (by decide)) ?_
    refine wpAnyN_done (by kernel_rfl) ?_
    try simp only [Act.put]
    try go_simp
    go_wp2
    go_ret
    exact ⟨rfl, HBB.out.trans (HB6.out.mono HBB.out.size)⟩
  · generalize nameS op = S at *
    have HFN := Lib.hid hn
    clear hf hn
    go_enter Tryd.func3, Tryd.ntmps3
    go_upto_region 1 with fail
    generalize w.alloc (.cells (cmdA c) 23) = wb at *
    go_wp2_with fail
    refine (HN.out _).mono ?_
    rintro e w' ⟨rfl, rfl⟩
    go_wp2_with fail
    refine (HN.out _).mono ?_
    rintro e w' ⟨rfl, rfl⟩
    go_wp2_with fail
    rw [← HFN.out]
    have HDR := Lib.hid (show Below wb.heap.size wb wb.drew from below_drewN (Below.refl _ _) 1)
    refine wp_region_N (S1 := fun W => Below wb.heap.size wb W) (S2 := fun _ => True) (N := fun _ => false) (by kernel_rfl) ?_
    change wpAnyN _ _ _ _ _ _ _ 15 (Array.replicate 15 false) _ _
    refine wpAnyN_take false (i := 0) (v := .agg (cmdA c)) rfl (by kernel_rfl) (by kernel_rfl) (by kernel_rfl) (fun _ _ _ h => h) (.inl ⟨by kernel_rfl, fun W hS => ?_⟩) ⟨HDR.out, fun h => by cases h⟩ ?_
    · obtain ⟨d0, d1, d2, d3, d4, d5, d6, d7⟩ := HC.out W hS.1
      simp [execOp, Act.eval, go_sem, cmdA, d0, d1, d2, d3, d4, d5, d6, d7]
    refine wpAnyN_take false (i := 2) (v := .agg (cmdA c)) rfl (by kernel_rfl) (by kernel_rfl) (by kernel_rfl) (fun _ _ _ h => h) (.inl ⟨by kernel_rfl, fun W hS => ?_⟩) ⟨HDR.out, fun h => by cases h⟩ ?_
    · obtain ⟨d0, d1, d2, d3, d4, d5, d6, d7⟩ := HC.out W hS.1
      simp [execOp, Act.eval, Act.put, go_sem, cmdA, d0, d1, d2, d3, d4, d5, d6, d7]
    refine wpAnyN_step (i := 1) (by kernel_rfl) rfl (by kernel_rfl) ?_
    intro K' hK
    try simp only [Act.put]
    go_simp
    refine (check_law c _ (HEB.out.later (Below.refl _ _).drew).e).mono ?_
    rintro e w2 ⟨v2, rfl, he2, hb2⟩
    have HE2 := Lib.hid he2
    have HB2 := Lib.hid (HDR.out.trans hb2)
    clear he2 hb2
    refine hK.out _ _ HB2.out (fun h => absurd h (by decide)) ?_
    refine wpAnyN_step (i := 3) (by kernel_rfl) rfl (by kernel_rfl) ?_
    intro K' hK
    try simp only [Act.put]
    go_simp
    refine (refCheck_any c w2).mono ?_
    rintro e w3 ⟨l3, rfl, hk3, hb3⟩
    have HE3 := Lib.hid (HE2.out.keep hb3)
    have HK3 := Lib.hid hk3
    have HB3 := Lib.hid (HB2.out.trans (hb3.mono HB2.out.size))
    clear hk3 hb3
    refine hK.out _ _ HB3.out (fun h => absurd h (by decide)) ?_
    refine wpAnyN_step (i := 4) (by kernel_rfl) rfl (by kernel_rfl) ?_
    intro K' hK
    try simp only [Act.put]
    go_simp
    refine (linksLaw_any v2 l3 _ _ w3 HE3.out HK3.out (HEB.out.later HB3.out).e (checkK_len c)).mono ?_
    rintro e w4 ⟨rfl, hb4⟩
    have HB4 := Lib.hid (HB3.out.trans (hb4.mono HB3.out.size))
    clear hb4
    refine hK.out _ _ HB4.out (fun h => absurd h (by decide)) ?_
    refine wpAnyN_step (i := 5) (by kernel_rfl) rfl (by kernel_rfl) ?_
    intro K' hK
    try simp only [Act.put]
    go_simp
    refine hK.out _ _ HB4.out (fun h => absurd h (by decide)) ?_
    refine wpAnyN_take false (i := 6) (v := .int .i64 op) rfl (by kernel_rfl) (by kernel_rfl) (by kernel_rfl) (fun _ _ _ h => h) (.inl ⟨by kernel_rfl, fun W hS => ?_⟩) ⟨HB4.out, fun h => by cases h⟩ ?_
    · simp [execOp, Act.eval, go_sem]
    refine wpAnyN_take false (i := 8) (v := .int .i64 (fieldsN op)) rfl (by kernel_rfl) (by kernel_rfl) (by kernel_rfl) (fun _ _ _ h => h) (.inl ⟨by kernel_rfl, fun W hS => ?_⟩) ⟨HB4.out, fun h => by cases h⟩ ?_
    · simp [execOp, Act.eval, Act.put, go_sem]
    refine wpAnyN_step (i := 7) (by kernel_rfl) rfl (by kernel_rfl) ?_
    intro K' hK
    try simp only [Act.put]
    go_simp
    refine (fields_law op w4).mono ?_
    rintro e w5 ⟨rfl, hb5⟩
    have HB5 := Lib.hid (HB4.out.trans (hb5.mono HB4.out.size))
    clear hb5
    refine hK.out _ _ HB5.out (fun h => absurd h (by decide)) ?_
    refine wpAnyN_step (i := 9) (by kernel_rfl) rfl (by kernel_rfl) ?_
    intro K' hK
    try simp only [Act.put]
    go_simp
    refine hK.out _ _ HB5.out (fun h => absurd h (by decide)) ?_
    refine wpAnyN_step (i := 10) (by kernel_rfl) rfl (by kernel_rfl) ?_
    intro K' hK
    try simp only [Act.put]
    go_simp
    refine hK.out _ _ HB5.out (fun h => absurd h (by decide)) ?_
    refine wpAnyN_step (i := 11) (by kernel_rfl) rfl (by kernel_rfl) ?_
    intro K' hK
    try simp only [Act.put]
    go_simp
    refine hK.out _ _ HB5.out (fun h => absurd h (by decide)) ?_
    refine wpAnyN_step (i := 12) (by kernel_rfl) rfl (by kernel_rfl) ?_
    intro K' hK
    try simp only [Act.put]
    go_simp
    refine (awake_any w5 (HEB.out.later HB5.out)).mono ?_
    rintro e w6 ⟨rfl, hb6⟩
    have HB6 := Lib.hid (HB5.out.trans (hb6.mono HB5.out.size))
    clear hb6
    refine hK.out _ _ HB6.out (fun h => absurd h (by decide)) ?_
    refine wpAnyN_step (i := 13) (by kernel_rfl) rfl (by kernel_rfl) ?_
    intro K' hK
    try simp only [Act.put]
    go_simp
    refine hK.out _ _ HB6.out (fun h => absurd h (by decide)) ?_
    refine wpAnyN_step (i := 14) (by kernel_rfl) rfl (by kernel_rfl) ?_
    intro K' hK
    try simp only [Act.put]
    go_simp
    refine hK.out _ _ HB6.out (fun h => absurd h (by decide)) ?_
    refine wpAnyN_done (by kernel_rfl) ?_
    try simp only [Act.put]
    try go_simp
    go_wp2
    go_ret
    exact ⟨rfl, HBB.out.trans (HB6.out.mono HBB.out.size)⟩
end Go.Proofs.YtnddojngbolbfaaDoor
