/-
  RowWrites walked.
  Conditions: none.
-/
import Derived.Test.YtaffcpjhaacadaaAwake
import Derived.Test.YtaffcpjhaacadaaLight
import Derived.Test.YtaffcpjhaacadaaRight
import Derived.Test.YtaffcpjhaacadaaRefEncode
import Derived.Test.YtaffcpjhaacadaaOrders
set_option linter.unusedVariables false
namespace Go.Proofs.Ytaffcpjhaacadaa
open Go.RowKit

set_option maxRecDepth 100000 in
set_option maxHeartbeats 4000000 in
theorem writes_law (m : Int) (u : Value) (ls : List (Value × List Int)) (w : World) (hu : RowsAt w u ls) : Calls Try.prog 3 #[.int .i64 m, u] w (RetB (.bool true) w) := by
  have HU := Lib.hid hu
  obtain ⟨A0, c0, rfl, _⟩ := hu.form
  have HB0 := Lib.hid (Below.refl w.heap.size w)
  have HLT := Lib.hid (light_any _ ls w hu)
  clear hu
  go_enter Try.func3, Try.ntmps3
  go_wp2_with fail
  refine HLT.out.mono ?_
  rintro e w' ⟨q, rfl, rfl, _⟩
  cases q with
  | true =>
    go_wp2_with fail
    refine (encode_any m _ ls w HU.out).mono ?_
    intro e w2 hE
    cases hr : rightW m (rowsOf ls) with
    | true =>
      obtain ⟨v2, rfl, ho2, hb2⟩ := hE.yes hr
      have HRR := Lib.hid (rightW_iff.1 hr)
      have HRT := Lib.hid hr
      have HB4 := Lib.hid hb2
      have HO4 := Lib.hid ho2
      have HU4 := Lib.hid (HU.out.keep hb2)
      have HC := Lib.hid (check_any m _ ls w2 HU4.out)
      rw [show checkI m (rowsOf ls) = 0 by unfold checkI; rw [hr]; rfl] at HC
      have HRI := Lib.hid (refRight_any m _ ls w2 HU4.out)
      rw [hr] at HRI
      clear hE ho2 hb2 hr
      simp only
      go_wp2_with fail
      refine HC.out.mono ?_
      rintro e w3 ⟨rfl, rfl⟩
      go_wp2_with fail
      refine HRI.out.mono ?_
      rintro e w4 ⟨rfl, rfl⟩
      go_wp2_with fail
      have HDR := Lib.hid (show Below w2.heap.size w2 w2.drew from below_drewN (Below.refl _ _) 1)
      refine wp_region_N (S1 := fun W => Below w2.heap.size w2 W) (S2 := fun _ => True) (N := fun _ => false) (by kernel_rfl) ?_
      change wpAnyN _ _ _ _ _ _ _ 15 (Array.replicate 15 false) _ _
      refine wpAnyN_take false (i := 0) (v := v2) rfl (by kernel_rfl) (by kernel_rfl) (by kernel_rfl) (fun _ _ _ h => h) (.inl ⟨by kernel_rfl, fun W hS => ?_⟩) ⟨HDR.out, fun h => by cases h⟩ ?_
      · simp [execOp, Act.eval, go_sem]
      refine wpAnyN_take false (i := 2) (v := .int .i64 m) rfl (by kernel_rfl) (by kernel_rfl) (by kernel_rfl) (fun _ _ _ h => h) (.inl ⟨by kernel_rfl, fun W hS => ?_⟩) ⟨HDR.out, fun h => by cases h⟩ ?_
      · simp [execOp, Act.eval, Act.put, go_sem]
      refine wpAnyN_take false (i := 3) (v := .slice A0 ls.length c0) rfl (by kernel_rfl) (by kernel_rfl) (by kernel_rfl) (fun _ _ _ h => h) (.inl ⟨by kernel_rfl, fun W hS => ?_⟩) ⟨HDR.out, fun h => by cases h⟩ ?_
      · simp [execOp, Act.eval, Act.put, go_sem]
      refine wpAnyN_take false (i := 1) (v := .string (textOf (encW m (rowsOf ls)))) rfl (by kernel_rfl) (by kernel_rfl) (by kernel_rfl) (fun _ _ _ h => h) (.inl ⟨by kernel_rfl, fun W hS => ?_⟩) ⟨HDR.out, fun h => by cases h⟩ ?_
      · simp [execOp, Act.eval, Act.put, go_sem, conv_text (P := Try.prog) (dst := 9) (HO4.out.keep hS.1).bytes Try.underlying25 Try.underlying5 Try.underlying9]
      refine wpAnyN_step (i := 4) (by kernel_rfl) rfl (by kernel_rfl) ?_
      intro K' hK
      try simp only [Act.put]
      go_simp
      refine (refEncode_any m _ ls _ (HU4.out.keep HDR.out) HRR.out).mono ?_
      rintro e w8 ⟨v8, rfl, ho8, hb8⟩
      have e8 := conv_text (P := Try.prog) (dst := 9) ho8.bytes Try.underlying25 Try.underlying5 Try.underlying9
      have HB8 := Lib.hid (HDR.out.trans (hb8.mono HDR.out.size))
      clear ho8 hb8
      refine hK.out _ _ HB8.out (fun h => absurd h (by decide)) ?_
      refine wpAnyN_step (i := 5) (by kernel_rfl) rfl (by kernel_rfl) ?_
      intro K' hK
      try simp only [Act.put]
      go_simp
      refine hK.out _ _ HB8.out (fun h => absurd h (by decide)) ?_
      clear e8
      refine wpAnyN_step (i := 6) (by kernel_rfl) rfl (by kernel_rfl) ?_
      intro K' hK
      try simp only [Act.put]
      go_simp
      refine hK.out _ _ HB8.out (fun h => absurd h (by decide)) ?_
      refine wpAnyN_step (i := 7) (by kernel_rfl) rfl (by kernel_rfl) ?_
      intro K' hK
      try simp only [Act.put]
      go_simp
      refine hK.out _ _ HB8.out (fun h => absurd h (by decide)) ?_
      refine wpAnyN_step (i := 8) (by kernel_rfl) rfl (by kernel_rfl) ?_
      intro K' hK
      try simp only [Act.put]
      go_simp
      refine hK.out _ _ HB8.out (fun h => absurd h (by decide)) ?_
      refine wpAnyN_step (i := 9) (by kernel_rfl) rfl (by kernel_rfl) ?_
      intro K' hK
      try simp only [Act.put]
      go_simp
      refine hK.out _ _ HB8.out (fun h => absurd h (by decide)) ?_
      refine wpAnyN_step (i := 10) (by kernel_rfl) rfl (by kernel_rfl) ?_
      intro K' hK
      try simp only [Act.put]
      go_simp
      refine hK.out _ _ HB8.out (fun h => absurd h (by decide)) ?_
      refine wpAnyN_step (i := 11) (by kernel_rfl) rfl (by kernel_rfl) ?_
      intro K' hK
      try simp only [Act.put]
      go_simp
      refine hK.out _ _ HB8.out (fun h => absurd h (by decide)) ?_
      refine wpAnyN_step (i := 12) (by kernel_rfl) rfl (by kernel_rfl) ?_
      intro K' hK
      try simp only [Act.put]
      go_simp
      refine (awake_any w8).mono ?_
      rintro e w9 ⟨rfl, hb9⟩
      have HB9 := Lib.hid (HB8.out.trans (hb9.mono HB8.out.size))
      clear hb9
      refine hK.out _ _ HB9.out (fun h => absurd h (by decide)) ?_
      refine wpAnyN_step (i := 13) (by kernel_rfl) rfl (by kernel_rfl) ?_
      intro K' hK
      try simp only [Act.put]
      go_simp
      refine hK.out _ _ HB9.out (fun h => absurd h (by decide)) ?_
      refine wpAnyN_step (i := 14) (by kernel_rfl) rfl (by kernel_rfl) ?_
      intro K' hK
      try simp only [Act.put]
      go_simp
      refine hK.out _ _ HB9.out (fun h => absurd h (by decide)) ?_
      refine wpAnyN_done (by kernel_rfl) ?_
      try simp only [Act.put]
      try go_simp
      go_wp2
      go_ret
      exact ⟨rfl, HB4.out.trans (HB9.out.mono HB4.out.size)⟩
    | false =>
      obtain ⟨rfl, hb2⟩ := hE.no hr
      have HB4 := Lib.hid hb2
      have HU4 := Lib.hid (HU.out.keep hb2)
      have HC := Lib.hid (check_any m _ ls w2 HU4.out)
      rw [show checkI m (rowsOf ls) = 1 by unfold checkI; rw [hr]; rfl] at HC
      have HRI := Lib.hid (refRight_any m _ ls w2 HU4.out)
      rw [hr] at HRI
      clear hE hb2 hr
      simp only
      go_wp2_with fail
      refine HC.out.mono ?_
      rintro e w3 ⟨rfl, rfl⟩
      go_wp2_with fail
      refine HRI.out.mono ?_
      rintro e w4 ⟨rfl, rfl⟩
      go_wp2_with fail
      refine (awake_any w2).mono ?_
      rintro e wz ⟨rfl, hbz⟩
      go_wp2
      go_ret
      exact ⟨rfl, HB4.out.trans (hbz.mono HB4.out.size)⟩
  | false =>
    go_wp2_with fail
    refine (awake_any w).mono ?_
    rintro e wz ⟨rfl, hbz⟩
    go_wp2
    go_ret
    exact ⟨rfl, HB0.out.trans (hbz.mono HB0.out.size)⟩
end Go.Proofs.Ytaffcpjhaacadaa
