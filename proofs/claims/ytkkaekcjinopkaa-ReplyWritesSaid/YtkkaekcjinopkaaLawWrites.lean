/-
  ReplyWrites walked.
  Conditions: the numbers are of their kind.
-/
import Derived.Test.YtkkaekcjinopkaaAwake
import Derived.Test.YtkkaekcjinopkaaSame
import Derived.Test.YtkkaekcjinopkaaRight
import Derived.Test.YtkkaekcjinopkaaOrders
set_option linter.unusedVariables false
namespace Go.Proofs.Ytkkaekcjinopkaa
open Go.RowKit

set_option maxRecDepth 100000 in
set_option maxHeartbeats 4000000 in
theorem writes_law (a b : Rep) (u v : Value) (w : World) (hu : IntsAt w u a.ns) (hs : ∀ n ∈ a.ns, n ≤ 9223372036854775807) (hv : IntsAt w v b.ns) : Calls Try.prog 3 #[.agg (repA a u), .agg (repA b v)] w (RetB (.bool true) w) := by
  have HS := Lib.hid hs
  obtain ⟨A0, c0, rfl⟩ := hu.form2
  obtain ⟨B0, k0, rfl⟩ := hv.form2
  have hb0 := below_new (W := w) (.cells (repA a (.slice A0 a.ns.length c0)) 25)
  have ha0 := RepAt.new w a (.slice A0 a.ns.length c0)
  have hz0 := World.size_alloc w (.cells (repA a (.slice A0 a.ns.length c0)) 25)
  have hb1 := below_new (W := w.alloc (.cells (repA a (.slice A0 a.ns.length c0)) 25)) (.cells (repA b (.slice B0 b.ns.length k0)) 25)
  have hz1 := RepAt.new (w.alloc (.cells (repA a (.slice A0 a.ns.length c0)) 25)) b (.slice B0 b.ns.length k0)
  rw [hz0] at hz1
  have HB := Lib.hid (hb0.trans (hb1.mono hb0.size))
  have HA := Lib.hid (ha0.keep hb1)
  have HZ := Lib.hid hz1
  have HU := Lib.hid (hu.keep HB.out)
  have HVV := Lib.hid (hv.keep HB.out)
  obtain ⟨b0, b1, b2, b3⟩ := HA.out.cells
  obtain ⟨d0, d1, d2, d3⟩ := HZ.out.cells
  obtain ⟨s, hs0⟩ : ∃ s, sameB a b = s := ⟨_, rfl⟩
  have HSB := Lib.hid hs0
  have hss : (s != s) = false := by cases s <;> rfl
  clear hu hs hv hb0 ha0 hb1 hz1 hs0
  go_enter Try.func3, Try.ntmps3
  go_upto_region 1 with fail
  generalize (w.alloc (.cells (repA a (.slice A0 a.ns.length c0)) 25)).alloc (.cells (repA b (.slice B0 b.ns.length k0)) 25) = w1 at *
  clear hz0
  by_cases hn : a.ns.length ≤ 100
  · have hnz : ¬ (100 : Int) < (a.ns.length : Int) := by omega
    by_cases hl : b.ns.length ≤ 100
    · have hlz : ¬ (100 : Int) < (b.ns.length : Int) := by omega
      clear hn hl
      go_wp2_with fail
      refine (encode_any a _ w1 HU.out HS.out).mono ?_
      intro e w2 hE
      cases hr : rightB a with
      | true =>
        obtain ⟨v2, rfl, ho2, hb2⟩ := hE.yes hr
        have HFT := Lib.hid (show FitR a from ⟨hr, HS.out⟩)
        have HRT := Lib.hid hr
        have hck : checkI a = 0 := by unfold checkI; rw [hr]; rfl
        have HCK := Lib.hid hck
        have HU2 := Lib.hid (HU.out.keep hb2)
        clear b0 b1 b2 b3
        obtain ⟨b0, b1, b2, b3⟩ := (HA.out.keep hb2).cells
        clear hE hck hr d0 d1 d2 d3
        simp only
        go_wp2_with fail
        refine (check_any a _ w2 HU2.out).mono ?_
        rw [HCK.out]
        rintro e w3 ⟨rfl, hb3⟩
        have HA3 := Lib.hid ((HA.out.keep hb2).keep hb3)
        have HZ3 := Lib.hid ((HZ.out.keep hb2).keep hb3)
        have HU3 := Lib.hid ((HU.out.keep hb2).keep hb3)
        have HV3 := Lib.hid ((HVV.out.keep hb2).keep hb3)
        have HB3 := Lib.hid (HB.out.trans ((hb2.trans (hb3.mono hb2.size)).mono HB.out.size))
        have HO3 := Lib.hid (ho2.keep hb3)
        clear b0 b1 b2 b3 hb2 hb3 ho2
        go_wp2_with fail
        have HDR := Lib.hid (show Below w3.heap.size w3 w3.drew from below_drewN (Below.refl _ _) 1)
        refine wp_region_N (S1 := fun W => Below w3.heap.size w3 W) (S2 := fun _ => True) (N := fun _ => false) (by kernel_rfl) ?_
        change wpAnyN _ _ _ _ _ _ _ 18 (Array.replicate 18 false) _ _
        refine wpAnyN_take false (i := 0) (v := .agg (repA a (.slice A0 a.ns.length c0))) rfl (by kernel_rfl) (by kernel_rfl) (by kernel_rfl) (fun _ _ _ h => h) (.inl ⟨by kernel_rfl, fun W hS => ?_⟩) ⟨HDR.out, fun h => by cases h⟩ ?_
        · simp [execOp, Act.eval, go_sem, show W.cell? ⟨w.heap.size, 0, none⟩ = some _ from (HA3.out.keep hS.1).cells.1, show W.cell? ⟨w.heap.size, 1, none⟩ = some _ from (HA3.out.keep hS.1).cells.2.1, show W.cell? ⟨w.heap.size, 2, none⟩ = some _ from (HA3.out.keep hS.1).cells.2.2.1, show W.cell? ⟨w.heap.size, 3, none⟩ = some _ from (HA3.out.keep hS.1).cells.2.2.2]
        refine wpAnyN_take false (i := 1) (v := .agg (repA b (.slice B0 b.ns.length k0))) rfl (by kernel_rfl) (by kernel_rfl) (by kernel_rfl) (fun _ _ _ h => h) (.inl ⟨by kernel_rfl, fun W hS => ?_⟩) ⟨HDR.out, fun h => by cases h⟩ ?_
        · simp [execOp, Act.eval, Act.put, go_sem, show W.cell? ⟨w.heap.size + 1, 0, none⟩ = some _ from (HZ3.out.keep hS.1).cells.1, show W.cell? ⟨w.heap.size + 1, 1, none⟩ = some _ from (HZ3.out.keep hS.1).cells.2.1, show W.cell? ⟨w.heap.size + 1, 2, none⟩ = some _ from (HZ3.out.keep hS.1).cells.2.2.1, show W.cell? ⟨w.heap.size + 1, 3, none⟩ = some _ from (HZ3.out.keep hS.1).cells.2.2.2]
        refine wpAnyN_take false (i := 3) (v := .agg (repA a (.slice A0 a.ns.length c0))) rfl (by kernel_rfl) (by kernel_rfl) (by kernel_rfl) (fun _ _ _ h => h) (.inl ⟨by kernel_rfl, fun W hS => ?_⟩) ⟨HDR.out, fun h => by cases h⟩ ?_
        · simp [execOp, Act.eval, Act.put, go_sem, show W.cell? ⟨w.heap.size, 0, none⟩ = some _ from (HA3.out.keep hS.1).cells.1, show W.cell? ⟨w.heap.size, 1, none⟩ = some _ from (HA3.out.keep hS.1).cells.2.1, show W.cell? ⟨w.heap.size, 2, none⟩ = some _ from (HA3.out.keep hS.1).cells.2.2.1, show W.cell? ⟨w.heap.size, 3, none⟩ = some _ from (HA3.out.keep hS.1).cells.2.2.2]
        refine wpAnyN_take false (i := 4) (v := .agg (repA b (.slice B0 b.ns.length k0))) rfl (by kernel_rfl) (by kernel_rfl) (by kernel_rfl) (fun _ _ _ h => h) (.inl ⟨by kernel_rfl, fun W hS => ?_⟩) ⟨HDR.out, fun h => by cases h⟩ ?_
        · simp [execOp, Act.eval, Act.put, go_sem, show W.cell? ⟨w.heap.size + 1, 0, none⟩ = some _ from (HZ3.out.keep hS.1).cells.1, show W.cell? ⟨w.heap.size + 1, 1, none⟩ = some _ from (HZ3.out.keep hS.1).cells.2.1, show W.cell? ⟨w.heap.size + 1, 2, none⟩ = some _ from (HZ3.out.keep hS.1).cells.2.2.1, show W.cell? ⟨w.heap.size + 1, 3, none⟩ = some _ from (HZ3.out.keep hS.1).cells.2.2.2]
        refine wpAnyN_step (i := 2) (by kernel_rfl) rfl (by kernel_rfl) ?_
        intro K' hK
        try simp only [Act.put]
        go_simp
        refine (same_any a b _ _ _ (HU3.out.keep HDR.out) (HV3.out.keep HDR.out)).mono ?_
        rw [HSB.out]
        rintro e w4 ⟨rfl, hbq⟩
        have HB4 := Lib.hid (HDR.out.trans (hbq.mono HDR.out.size))
        clear hbq
        refine hK.out _ _ HB4.out (fun h => absurd h (by decide)) ?_
        refine wpAnyN_step (i := 5) (by kernel_rfl) rfl (by kernel_rfl) ?_
        intro K' hK
        try simp only [Act.put]
        go_simp
        refine (refSame12_any a b _ _ w4 (HU3.out.keep HB4.out) (HV3.out.keep HB4.out)).mono ?_
        rw [HSB.out]
        rintro e w5 ⟨rfl, hbq⟩
        have HB5 := Lib.hid (HB4.out.trans (hbq.mono HB4.out.size))
        clear hbq
        refine hK.out _ _ HB5.out (fun h => absurd h (by decide)) ?_
        refine wpAnyN_step (i := 6) (by kernel_rfl) rfl (by kernel_rfl) ?_
        intro K' hK
        try simp only [Act.put]
        go_simp
        refine hK.out _ _ HB5.out (fun h => absurd h (by decide)) ?_
        refine wpAnyN_step (i := 7) (by kernel_rfl) rfl (by kernel_rfl) ?_
        intro K' hK
        try simp only [Act.put]
        go_simp
        refine hK.out _ _ HB5.out (fun h => absurd h (by decide)) ?_
        refine wpAnyN_take false (i := 8) (v := .agg (repA a (.slice A0 a.ns.length c0))) rfl (by kernel_rfl) (by kernel_rfl) (by kernel_rfl) (fun _ _ _ h => h) (.inl ⟨by kernel_rfl, fun W hS => ?_⟩) ⟨HB5.out, fun h => by cases h⟩ ?_
        · simp [execOp, Act.eval, go_sem, show W.cell? ⟨w.heap.size, 0, none⟩ = some _ from (HA3.out.keep hS.1).cells.1, show W.cell? ⟨w.heap.size, 1, none⟩ = some _ from (HA3.out.keep hS.1).cells.2.1, show W.cell? ⟨w.heap.size, 2, none⟩ = some _ from (HA3.out.keep hS.1).cells.2.2.1, show W.cell? ⟨w.heap.size, 3, none⟩ = some _ from (HA3.out.keep hS.1).cells.2.2.2]
        refine wpAnyN_take false (i := 9) (v := .agg (repA a (.slice A0 a.ns.length c0))) rfl (by kernel_rfl) (by kernel_rfl) (by kernel_rfl) (fun _ _ _ h => h) (.inl ⟨by kernel_rfl, fun W hS => ?_⟩) ⟨HB5.out, fun h => by cases h⟩ ?_
        · simp [execOp, Act.eval, Act.put, go_sem, show W.cell? ⟨w.heap.size, 0, none⟩ = some _ from (HA3.out.keep hS.1).cells.1, show W.cell? ⟨w.heap.size, 1, none⟩ = some _ from (HA3.out.keep hS.1).cells.2.1, show W.cell? ⟨w.heap.size, 2, none⟩ = some _ from (HA3.out.keep hS.1).cells.2.2.1, show W.cell? ⟨w.heap.size, 3, none⟩ = some _ from (HA3.out.keep hS.1).cells.2.2.2]
        refine wpAnyN_step (i := 10) (by kernel_rfl) rfl (by kernel_rfl) ?_
        intro K' hK
        try simp only [Act.put]
        go_simp
        refine (same_any a a _ _ w5 (HU3.out.keep HB5.out) (HU3.out.keep HB5.out)).mono ?_
        rw [sameB_self]
        rintro e w6 ⟨rfl, hbq⟩
        have HB6 := Lib.hid (HB5.out.trans (hbq.mono HB5.out.size))
        clear hbq
        refine hK.out _ _ HB6.out (fun h => absurd h (by decide)) ?_
        refine wpAnyN_step (i := 11) (by kernel_rfl) rfl (by kernel_rfl) ?_
        intro K' hK
        try simp only [Act.put]
        go_simp
        refine hK.out _ _ HB6.out (fun h => absurd h (by decide)) ?_
        refine wpAnyN_step (i := 12) (by kernel_rfl) rfl (by kernel_rfl) ?_
        intro K' hK
        try simp only [Act.put]
        go_simp
        refine hK.out _ _ HB6.out (fun h => absurd h (by decide)) ?_
        refine wpAnyN_step (i := 13) (by kernel_rfl) rfl (by kernel_rfl) ?_
        intro K' hK
        try simp only [Act.put]
        go_simp
        refine hK.out _ _ HB6.out (fun h => absurd h (by decide)) ?_
        refine wpAnyN_take false (i := 14) (v := .int .i64 0) rfl (by kernel_rfl) (by kernel_rfl) (by kernel_rfl) (fun _ _ _ h => h) (.inl ⟨by kernel_rfl, fun W hS => ?_⟩) ⟨HB6.out, fun h => by cases h⟩ ?_
        · simp [execOp, Act.eval, go_sem]
        refine wpAnyN_take false (i := 15) (v := .int .i64 0) rfl (by kernel_rfl) (by kernel_rfl) (by kernel_rfl) (fun _ _ _ h => h) (.inl ⟨by kernel_rfl, fun W hS => ?_⟩) ⟨HB6.out, fun h => by cases h⟩ ?_
        · simp [execOp, Act.eval, Act.put, go_sem]
        refine wpAnyN_step (i := 16) (by kernel_rfl) rfl (by kernel_rfl) ?_
        intro K' hK
        try simp only [Act.put]
        go_simp
        refine hK.out _ _ HB6.out (fun h => absurd h (by decide)) ?_
        refine wpAnyN_step (i := 17) (by kernel_rfl) rfl (by kernel_rfl) ?_
        intro K' hK
        try simp only [Act.put]
        go_simp
        refine hK.out _ _ HB6.out (fun h => absurd h (by decide)) ?_
        refine wpAnyN_done (by kernel_rfl) ?_
        try simp only [Act.put]
        try go_simp
        clear K' hK
        have HA6 := Lib.hid (HA3.out.keep HB6.out)
        have HU6 := Lib.hid (HU3.out.keep HB6.out)
        have HBW6 := Lib.hid (HB3.out.trans (HB6.out.mono HB3.out.size))
        obtain ⟨b0, b1, b2, b3⟩ := HA6.out.cells
        go_wp2_with fail
        refine (refRight_any a _ w6 HU6.out).mono ?_
        rw [HRT.out]
        rintro e w7 ⟨rfl, hb7⟩
        have HBW7 := Lib.hid (HBW6.out.trans (hb7.mono HBW6.out.size))
        have HA7 := Lib.hid (HA6.out.keep hb7)
        have HU7 := Lib.hid (HU6.out.keep hb7)
        have HO7 := Lib.hid (((HO3.out.keep HB6.out).keep hb7).bytes)
        clear b0 b1 b2 b3 hb7
        go_wp2_with fail
        have HDS := Lib.hid (show Below w7.heap.size w7 w7.drew from below_drewN (Below.refl _ _) 1)
        refine wp_region_N (S1 := fun W => Below w7.heap.size w7 W) (S2 := fun _ => True) (N := fun _ => false) (by kernel_rfl) ?_
        change wpAnyN _ _ _ _ _ _ _ 14 (Array.replicate 14 false) _ _
        refine wpAnyN_take false (i := 0) (v := v2) rfl (by kernel_rfl) (by kernel_rfl) (by kernel_rfl) (fun _ _ _ h => h) (.inl ⟨by kernel_rfl, fun W hS => ?_⟩) ⟨HDS.out, fun h => by cases h⟩ ?_
        · simp [execOp, Act.eval, go_sem]
        refine wpAnyN_take false (i := 2) (v := .agg (repA a (.slice A0 a.ns.length c0))) rfl (by kernel_rfl) (by kernel_rfl) (by kernel_rfl) (fun _ _ _ h => h) (.inl ⟨by kernel_rfl, fun W hS => ?_⟩) ⟨HDS.out, fun h => by cases h⟩ ?_
        · simp [execOp, Act.eval, Act.put, go_sem, show W.cell? ⟨w.heap.size, 0, none⟩ = some _ from (HA7.out.keep hS.1).cells.1, show W.cell? ⟨w.heap.size, 1, none⟩ = some _ from (HA7.out.keep hS.1).cells.2.1, show W.cell? ⟨w.heap.size, 2, none⟩ = some _ from (HA7.out.keep hS.1).cells.2.2.1, show W.cell? ⟨w.heap.size, 3, none⟩ = some _ from (HA7.out.keep hS.1).cells.2.2.2]
        refine wpAnyN_take false (i := 1) (v := .string (textOf (encR a))) rfl (by kernel_rfl) (by kernel_rfl) (by kernel_rfl) (fun _ _ _ h => h) (.inl ⟨by kernel_rfl, fun W hS => ?_⟩) ⟨HDS.out, fun h => by cases h⟩ ?_
        · simp [execOp, Act.eval, Act.put, go_sem, conv_text (P := Try.prog) (dst := 9) (HO7.out.keep hS.1) Try.underlying27 Try.underlying5 Try.underlying9]
        refine wpAnyN_step (i := 3) (by kernel_rfl) rfl (by kernel_rfl) ?_
        intro K' hK
        try simp only [Act.put]
        go_simp
        refine (refEncode_any a _ _ (HU7.out.keep HDS.out) HFT.out).mono ?_
        rintro e w8 ⟨v8, rfl, ho8, hb8⟩
        have e8 := conv_text (P := Try.prog) (dst := 9) ho8.bytes Try.underlying27 Try.underlying5 Try.underlying9
        have HB8 := Lib.hid (HDS.out.trans hb8)
        clear ho8 hb8
        refine hK.out _ _ HB8.out (fun h => absurd h (by decide)) ?_
        refine wpAnyN_step (i := 4) (by kernel_rfl) rfl (by kernel_rfl) ?_
        intro K' hK
        try simp only [Act.put]
        go_simp
        refine hK.out _ _ HB8.out (fun h => absurd h (by decide)) ?_
        refine wpAnyN_step (i := 5) (by kernel_rfl) rfl (by kernel_rfl) ?_
        intro K' hK
        try simp only [Act.put]
        go_simp
        refine hK.out _ _ HB8.out (fun h => absurd h (by decide)) ?_
        refine wpAnyN_step (i := 6) (by kernel_rfl) rfl (by kernel_rfl) ?_
        intro K' hK
        try simp only [Act.put]
        go_simp
        refine hK.out _ _ HB8.out (fun h => absurd h (by decide)) ?_
        refine wpAnyN_step (i := 7) (by kernel_rfl) rfl (by kernel_rfl) ?_
        intro K' hK
        try simp only [Act.put]
        go_simp
        refine hK.out _ _ HB8.out (fun h => absurd h (by decide)) ?_
        refine wpAnyN_step (i := 8) (by kernel_rfl) rfl (by kernel_rfl) ?_
        intro K' hK
        try simp only [Act.put]
        go_simp
        refine hK.out _ _ HB8.out (fun h => absurd h (by decide)) ?_
        refine wpAnyN_step (i := 9) (by kernel_rfl) rfl (by kernel_rfl) ?_
        intro K' hK
        try simp only [Act.put]
        go_simp
        refine hK.out _ _ HB8.out (fun h => absurd h (by decide)) ?_
        refine wpAnyN_step (i := 10) (by kernel_rfl) rfl (by kernel_rfl) ?_
        intro K' hK
        try simp only [Act.put]
        go_simp
        refine hK.out _ _ HB8.out (fun h => absurd h (by decide)) ?_
        refine wpAnyN_step (i := 11) (by kernel_rfl) rfl (by kernel_rfl) ?_
        intro K' hK
        try simp only [Act.put]
        go_simp
        refine (awake_any w8).mono ?_
        rintro e w9 ⟨rfl, hb9⟩
        have HB9 := Lib.hid (HB8.out.trans (hb9.mono HB8.out.size))
        clear hb9
        refine hK.out _ _ HB9.out (fun h => absurd h (by decide)) ?_
        refine wpAnyN_step (i := 12) (by kernel_rfl) rfl (by kernel_rfl) ?_
        intro K' hK
        try simp only [Act.put]
        go_simp
        refine hK.out _ _ HB9.out (fun h => absurd h (by decide)) ?_
        refine wpAnyN_step (i := 13) (by kernel_rfl) rfl (by kernel_rfl) ?_
        intro K' hK
        try simp only [Act.put]
        go_simp
        refine hK.out _ _ HB9.out (fun h => absurd h (by decide)) ?_
        refine wpAnyN_done (by kernel_rfl) ?_
        try simp only [Act.put]
        try go_simp
        go_wp2
        go_ret
        exact ⟨rfl, HBW7.out.trans (HB9.out.mono HBW7.out.size)⟩
      | false =>
        obtain ⟨rfl, hb2⟩ := hE.no hr
        have HRT := Lib.hid hr
        have hck : checkI a = 1 := by unfold checkI; rw [hr]; rfl
        have HCK := Lib.hid hck
        have HU2 := Lib.hid (HU.out.keep hb2)
        clear b0 b1 b2 b3
        obtain ⟨b0, b1, b2, b3⟩ := (HA.out.keep hb2).cells
        clear hE hck hr d0 d1 d2 d3
        simp only
        go_wp2_with fail
        refine (check_any a _ w2 HU2.out).mono ?_
        rw [HCK.out]
        rintro e w3 ⟨rfl, hb3⟩
        have HA3 := Lib.hid ((HA.out.keep hb2).keep hb3)
        have HZ3 := Lib.hid ((HZ.out.keep hb2).keep hb3)
        have HU3 := Lib.hid ((HU.out.keep hb2).keep hb3)
        have HV3 := Lib.hid ((HVV.out.keep hb2).keep hb3)
        have HB3 := Lib.hid (HB.out.trans ((hb2.trans (hb3.mono hb2.size)).mono HB.out.size))
        clear b0 b1 b2 b3 hb2 hb3
        go_wp2_with fail
        have HDR := Lib.hid (show Below w3.heap.size w3 w3.drew from below_drewN (Below.refl _ _) 1)
        refine wp_region_N (S1 := fun W => Below w3.heap.size w3 W) (S2 := fun _ => True) (N := fun _ => false) (by kernel_rfl) ?_
        change wpAnyN _ _ _ _ _ _ _ 18 (Array.replicate 18 false) _ _
        refine wpAnyN_take false (i := 0) (v := .agg (repA a (.slice A0 a.ns.length c0))) rfl (by kernel_rfl) (by kernel_rfl) (by kernel_rfl) (fun _ _ _ h => h) (.inl ⟨by kernel_rfl, fun W hS => ?_⟩) ⟨HDR.out, fun h => by cases h⟩ ?_
        · simp [execOp, Act.eval, go_sem, show W.cell? ⟨w.heap.size, 0, none⟩ = some _ from (HA3.out.keep hS.1).cells.1, show W.cell? ⟨w.heap.size, 1, none⟩ = some _ from (HA3.out.keep hS.1).cells.2.1, show W.cell? ⟨w.heap.size, 2, none⟩ = some _ from (HA3.out.keep hS.1).cells.2.2.1, show W.cell? ⟨w.heap.size, 3, none⟩ = some _ from (HA3.out.keep hS.1).cells.2.2.2]
        refine wpAnyN_take false (i := 1) (v := .agg (repA b (.slice B0 b.ns.length k0))) rfl (by kernel_rfl) (by kernel_rfl) (by kernel_rfl) (fun _ _ _ h => h) (.inl ⟨by kernel_rfl, fun W hS => ?_⟩) ⟨HDR.out, fun h => by cases h⟩ ?_
        · simp [execOp, Act.eval, Act.put, go_sem, show W.cell? ⟨w.heap.size + 1, 0, none⟩ = some _ from (HZ3.out.keep hS.1).cells.1, show W.cell? ⟨w.heap.size + 1, 1, none⟩ = some _ from (HZ3.out.keep hS.1).cells.2.1, show W.cell? ⟨w.heap.size + 1, 2, none⟩ = some _ from (HZ3.out.keep hS.1).cells.2.2.1, show W.cell? ⟨w.heap.size + 1, 3, none⟩ = some _ from (HZ3.out.keep hS.1).cells.2.2.2]
        refine wpAnyN_take false (i := 3) (v := .agg (repA a (.slice A0 a.ns.length c0))) rfl (by kernel_rfl) (by kernel_rfl) (by kernel_rfl) (fun _ _ _ h => h) (.inl ⟨by kernel_rfl, fun W hS => ?_⟩) ⟨HDR.out, fun h => by cases h⟩ ?_
        · simp [execOp, Act.eval, Act.put, go_sem, show W.cell? ⟨w.heap.size, 0, none⟩ = some _ from (HA3.out.keep hS.1).cells.1, show W.cell? ⟨w.heap.size, 1, none⟩ = some _ from (HA3.out.keep hS.1).cells.2.1, show W.cell? ⟨w.heap.size, 2, none⟩ = some _ from (HA3.out.keep hS.1).cells.2.2.1, show W.cell? ⟨w.heap.size, 3, none⟩ = some _ from (HA3.out.keep hS.1).cells.2.2.2]
        refine wpAnyN_take false (i := 4) (v := .agg (repA b (.slice B0 b.ns.length k0))) rfl (by kernel_rfl) (by kernel_rfl) (by kernel_rfl) (fun _ _ _ h => h) (.inl ⟨by kernel_rfl, fun W hS => ?_⟩) ⟨HDR.out, fun h => by cases h⟩ ?_
        · simp [execOp, Act.eval, Act.put, go_sem, show W.cell? ⟨w.heap.size + 1, 0, none⟩ = some _ from (HZ3.out.keep hS.1).cells.1, show W.cell? ⟨w.heap.size + 1, 1, none⟩ = some _ from (HZ3.out.keep hS.1).cells.2.1, show W.cell? ⟨w.heap.size + 1, 2, none⟩ = some _ from (HZ3.out.keep hS.1).cells.2.2.1, show W.cell? ⟨w.heap.size + 1, 3, none⟩ = some _ from (HZ3.out.keep hS.1).cells.2.2.2]
        refine wpAnyN_step (i := 2) (by kernel_rfl) rfl (by kernel_rfl) ?_
        intro K' hK
        try simp only [Act.put]
        go_simp
        refine (same_any a b _ _ _ (HU3.out.keep HDR.out) (HV3.out.keep HDR.out)).mono ?_
        rw [HSB.out]
        rintro e w4 ⟨rfl, hbq⟩
        have HB4 := Lib.hid (HDR.out.trans (hbq.mono HDR.out.size))
        clear hbq
        refine hK.out _ _ HB4.out (fun h => absurd h (by decide)) ?_
        refine wpAnyN_step (i := 5) (by kernel_rfl) rfl (by kernel_rfl) ?_
        intro K' hK
        try simp only [Act.put]
        go_simp
        refine (refSame12_any a b _ _ w4 (HU3.out.keep HB4.out) (HV3.out.keep HB4.out)).mono ?_
        rw [HSB.out]
        rintro e w5 ⟨rfl, hbq⟩
        have HB5 := Lib.hid (HB4.out.trans (hbq.mono HB4.out.size))
        clear hbq
        refine hK.out _ _ HB5.out (fun h => absurd h (by decide)) ?_
        refine wpAnyN_step (i := 6) (by kernel_rfl) rfl (by kernel_rfl) ?_
        intro K' hK
        try simp only [Act.put]
        go_simp
        refine hK.out _ _ HB5.out (fun h => absurd h (by decide)) ?_
        refine wpAnyN_step (i := 7) (by kernel_rfl) rfl (by kernel_rfl) ?_
        intro K' hK
        try simp only [Act.put]
        go_simp
        refine hK.out _ _ HB5.out (fun h => absurd h (by decide)) ?_
        refine wpAnyN_take false (i := 8) (v := .agg (repA a (.slice A0 a.ns.length c0))) rfl (by kernel_rfl) (by kernel_rfl) (by kernel_rfl) (fun _ _ _ h => h) (.inl ⟨by kernel_rfl, fun W hS => ?_⟩) ⟨HB5.out, fun h => by cases h⟩ ?_
        · simp [execOp, Act.eval, go_sem, show W.cell? ⟨w.heap.size, 0, none⟩ = some _ from (HA3.out.keep hS.1).cells.1, show W.cell? ⟨w.heap.size, 1, none⟩ = some _ from (HA3.out.keep hS.1).cells.2.1, show W.cell? ⟨w.heap.size, 2, none⟩ = some _ from (HA3.out.keep hS.1).cells.2.2.1, show W.cell? ⟨w.heap.size, 3, none⟩ = some _ from (HA3.out.keep hS.1).cells.2.2.2]
        refine wpAnyN_take false (i := 9) (v := .agg (repA a (.slice A0 a.ns.length c0))) rfl (by kernel_rfl) (by kernel_rfl) (by kernel_rfl) (fun _ _ _ h => h) (.inl ⟨by kernel_rfl, fun W hS => ?_⟩) ⟨HB5.out, fun h => by cases h⟩ ?_
        · simp [execOp, Act.eval, Act.put, go_sem, show W.cell? ⟨w.heap.size, 0, none⟩ = some _ from (HA3.out.keep hS.1).cells.1, show W.cell? ⟨w.heap.size, 1, none⟩ = some _ from (HA3.out.keep hS.1).cells.2.1, show W.cell? ⟨w.heap.size, 2, none⟩ = some _ from (HA3.out.keep hS.1).cells.2.2.1, show W.cell? ⟨w.heap.size, 3, none⟩ = some _ from (HA3.out.keep hS.1).cells.2.2.2]
        refine wpAnyN_step (i := 10) (by kernel_rfl) rfl (by kernel_rfl) ?_
        intro K' hK
        try simp only [Act.put]
        go_simp
        refine (same_any a a _ _ w5 (HU3.out.keep HB5.out) (HU3.out.keep HB5.out)).mono ?_
        rw [sameB_self]
        rintro e w6 ⟨rfl, hbq⟩
        have HB6 := Lib.hid (HB5.out.trans (hbq.mono HB5.out.size))
        clear hbq
        refine hK.out _ _ HB6.out (fun h => absurd h (by decide)) ?_
        refine wpAnyN_step (i := 11) (by kernel_rfl) rfl (by kernel_rfl) ?_
        intro K' hK
        try simp only [Act.put]
        go_simp
        refine hK.out _ _ HB6.out (fun h => absurd h (by decide)) ?_
        refine wpAnyN_step (i := 12) (by kernel_rfl) rfl (by kernel_rfl) ?_
        intro K' hK
        try simp only [Act.put]
        go_simp
        refine hK.out _ _ HB6.out (fun h => absurd h (by decide)) ?_
        refine wpAnyN_step (i := 13) (by kernel_rfl) rfl (by kernel_rfl) ?_
        intro K' hK
        try simp only [Act.put]
        go_simp
        refine hK.out _ _ HB6.out (fun h => absurd h (by decide)) ?_
        refine wpAnyN_take false (i := 14) (v := .int .i64 1) rfl (by kernel_rfl) (by kernel_rfl) (by kernel_rfl) (fun _ _ _ h => h) (.inl ⟨by kernel_rfl, fun W hS => ?_⟩) ⟨HB6.out, fun h => by cases h⟩ ?_
        · simp [execOp, Act.eval, go_sem]
        refine wpAnyN_take false (i := 15) (v := .int .i64 1) rfl (by kernel_rfl) (by kernel_rfl) (by kernel_rfl) (fun _ _ _ h => h) (.inl ⟨by kernel_rfl, fun W hS => ?_⟩) ⟨HB6.out, fun h => by cases h⟩ ?_
        · simp [execOp, Act.eval, Act.put, go_sem]
        refine wpAnyN_step (i := 16) (by kernel_rfl) rfl (by kernel_rfl) ?_
        intro K' hK
        try simp only [Act.put]
        go_simp
        refine hK.out _ _ HB6.out (fun h => absurd h (by decide)) ?_
        refine wpAnyN_step (i := 17) (by kernel_rfl) rfl (by kernel_rfl) ?_
        intro K' hK
        try simp only [Act.put]
        go_simp
        refine hK.out _ _ HB6.out (fun h => absurd h (by decide)) ?_
        refine wpAnyN_done (by kernel_rfl) ?_
        try simp only [Act.put]
        try go_simp
        clear K' hK
        have HA6 := Lib.hid (HA3.out.keep HB6.out)
        have HU6 := Lib.hid (HU3.out.keep HB6.out)
        have HBW6 := Lib.hid (HB3.out.trans (HB6.out.mono HB3.out.size))
        obtain ⟨b0, b1, b2, b3⟩ := HA6.out.cells
        go_wp2_with fail
        refine (refRight_any a _ w6 HU6.out).mono ?_
        rw [HRT.out]
        rintro e w7 ⟨rfl, hb7⟩
        have HBW7 := Lib.hid (HBW6.out.trans (hb7.mono HBW6.out.size))
        clear b0 b1 b2 b3 hb7
        go_wp2_with fail
        refine (awake_any w7).mono ?_
        rintro e wz ⟨rfl, hbz⟩
        go_wp2
        go_ret
        exact ⟨rfl, HBW7.out.trans (hbz.mono HBW7.out.size)⟩
    · have hlz : (100 : Int) < (b.ns.length : Int) := by omega
      clear hn hl
      go_wp2_with fail
      refine (awake_any w1).mono ?_
      rintro e wz ⟨rfl, hbz⟩
      go_wp2
      go_ret
      exact ⟨rfl, HB.out.trans (hbz.mono HB.out.size)⟩
  · have hnz : (100 : Int) < (a.ns.length : Int) := by omega
    clear hn
    go_wp2_with fail
    refine (awake_any w1).mono ?_
    rintro e wz ⟨rfl, hbz⟩
    go_wp2
    go_ret
    exact ⟨rfl, HB.out.trans (hbz.mono HB.out.size)⟩
end Go.Proofs.Ytkkaekcjinopkaa
