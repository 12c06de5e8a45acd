/-
  OrderSorts walked.
  Conditions: the arguments are ints, or read as wants of ints.
-/
import Derived.Test.YtiikddemjjikfaaLawChecks
import Derived.Test.YtiikddemjjikfaaOrders
set_option linter.unusedVariables false
namespace Go.Proofs.Ytiikddemjjikfaa
open Go.RowKit

set_option maxRecDepth 100000 in
set_option maxHeartbeats 8000000 in
theorem sorts_law (v : Value) (ps : List Sp) (x : Sp) (u : Int) (w : World) (h : ArgAt w v ps) :
    Calls Try.prog 5 #[v, .agg #[.int .i64 x.1, .int .i64 x.2], .int .i64 u] w (RetB (.bool true) w) := by
  have HAW := Lib.hid (fun W => awake_any W)
  have hb0 : Below w.heap.size w (w.alloc (.cells #[.int .i64 x.1, .int .i64 x.2] 38)) := (Below.refl _ _).alloc (Nat.le_refl _) _
  have HB0 := Lib.hid hb0
  have harg := h.keep hb0
  have HBOX := Lib.hid (fun w' hb => box_cells w x 38 (w' := w') hb)
  obtain ⟨A, c, rfl, hc1, hc2, hnil, _⟩ := h
  have HS := Lib.hid (harg.cut 60 (by decide))
  have hm : min (ps.length : Int) 60 = ((min ps.length 60 : Nat) : Int) := by omega
  have hmle : min ps.length 60 ≤ ps.length := Nat.min_le_left _ _
  have hql : (ps.take 60).length ≤ 60 := by rw [List.length_take]; exact Nat.min_le_left _ _
  generalize ps.take 60 = qs at *
  generalize ps.length = n at *
  generalize min n 60 = m at *
  have hmc : (m : Int) ≤ (c : Int) := by omega
  have hm0 : (0 : Int) ≤ (m : Int) := by omega
  have hsl := sortT_length qs
  have hsl2 : (sortT qs).length ≤ 1000 := by omega
  have hpl : (putT x (sortT qs)).length ≤ 1000 := by rw [putT_length]; omega
  have hwl : (withoutT u qs).length ≤ 1000 := by
    have := List.length_filter_le (fun s : Sp => !decide (s.1 = u)) qs
    unfold withoutT
    omega
  have hss : sortT (sortT qs) = sortT qs := sortT_self (sortT_sorted qs)
  have HRS := Lib.hid (fun v w h => refSort_any v qs w h (by omega))
  have HSO := Lib.hid (fun v w h => sort_any v qs w h)
  have HSA := Lib.hid (fun x y ps w hx hy => same_any x y ps w hx hy)
  have HPU : Hid (∀ v w, SpansAt w v (sortT qs) → Calls Try.prog 19 #[v, .agg #[.int .i64 x.1, .int .i64 x.2]] w (RetO w.heap.size 38 (putT x (sortT qs)) w)) := fun v w h => by
    have := put_any v (sortT qs) x w h hsl2
    rwa [hss] at this
  have HRP := Lib.hid (fun v w h => refPut_any v (sortT qs) x w h hsl2)
  have HWI := Lib.hid (fun v w h => without_any v qs u w h)
  have HRW := Lib.hid (fun v w h => refWithout_any v qs u w h (by omega))
  generalize putT x (sortT qs) = ss at *
  generalize sortT qs = rs at *
  generalize withoutT u qs = ws at *
  have HL := Lib.hid (And.intro hsl2 (And.intro hpl hwl))
  obtain ⟨x1, x2⟩ := x
  simp only at HB0 HBOX HPU HRP HS
  clear harg hnil hb0 hsl hsl2 hpl hwl hss
  go_enter Try.func5, Try.ntmps5
  go_wp2_with fail
  refine (HRS.out _ _ HS.out).mono ?_
  rintro e w1 ⟨v1, rfl, hat1, hb1⟩
  have HR1 := Lib.hid hat1
  have HS1 := Lib.hid (HS.out.keep hb1)
  have HB1 := Lib.hid (HB0.out.trans (hb1.mono (by simp)))
  obtain ⟨g0, g1, g2⟩ := HBOX.out w1 hb1
  have HC := Lib.hid (show ∀ W, Below w1.heap.size w1 W → W.cell? ⟨w.heap.size, 0, none⟩ = some (.int .i64 x1) ∧ W.cell? ⟨w.heap.size, 1, none⟩ = some (.int .i64 x2) from fun W hb => ⟨(hb.cell (p := ⟨w.heap.size, 0, none⟩) g2).trans g0, (hb.cell (p := ⟨w.heap.size, 1, none⟩) g2).trans g1⟩)
  have HDR := Lib.hid (show Below w1.heap.size w1 w1.drew from below_drewN (Below.refl _ _) 1)
  clear hat1 hb1 HS HRS g0 g1 g2
  go_wp2_with fail
  refine wp_region_N (S1 := fun W => Below w1.heap.size w1 W) (S2 := fun _ => True) (N := fun _ => false) (by kernel_rfl) ?_
  change wpAnyN _ _ _ _ _ _ _ 26 (Array.replicate 26 false) _ _
  refine wpAnyN_take false (i := 0) (v := .slice A m c) rfl (by kernel_rfl) (by kernel_rfl) (by kernel_rfl) (fun _ _ _ h => h) (.inl ⟨by kernel_rfl, fun W hS => ?_⟩) ⟨HDR.out, fun h => by cases h⟩ ?_
  · simp [execOp, Act.eval, go_sem]
  refine wpAnyN_take false (i := 2) (v := v1) rfl (by kernel_rfl) (by kernel_rfl) (by kernel_rfl) (fun _ _ _ h => h) (.inl ⟨by kernel_rfl, fun W hS => ?_⟩) ⟨HDR.out, fun h => by cases h⟩ ?_
  · simp [execOp, Act.eval, Act.put, go_sem]
  refine wpAnyN_step (i := 1) (by kernel_rfl) rfl (by kernel_rfl) ?_
  intro K' hK
  try simp only [Act.put]
  go_simp
  refine (HSO.out _ _ (HS1.out.keep HDR.out)).mono ?_
  rintro e w2 ⟨v2, rfl, hown2, hb2⟩
  have HP2 := Lib.hid (spans_of_own hown2 (by have := HL.out.1; omega))
  have H2 := Lib.hid (HDR.out.trans (hb2.mono HDR.out.size))
  clear hown2 hb2
  refine hK.out _ _ H2.out (fun h => absurd h (by decide)) ?_
  refine wpAnyN_step (i := 3) (by kernel_rfl) rfl (by kernel_rfl) ?_
  intro K' hK
  try simp only [Act.put]
  go_simp
  refine (HSA.out _ _ _ _ HP2.out (HR1.out.keep H2.out)).mono ?_
  rintro e w3 ⟨rfl, hb3⟩
  have H3 := Lib.hid (H2.out.trans (hb3.mono H2.out.size))
  clear hb3 HP2
  refine hK.out _ _ H3.out (fun h => absurd h (by decide)) ?_
  refine wpAnyN_take false (i := 4) (v := .bool true) rfl (by kernel_rfl) (by kernel_rfl) (by kernel_rfl) (fun _ _ _ h => h) (.inl ⟨by kernel_rfl, fun W hS => ?_⟩) ⟨H3.out, fun h => by cases h⟩ ?_
  · simp [execOp, Act.eval, go_sem]
  refine wpAnyN_take false (i := 5) (v := v1) rfl (by kernel_rfl) (by kernel_rfl) (by kernel_rfl) (fun _ _ _ h => h) (.inl ⟨by kernel_rfl, fun W hS => ?_⟩) ⟨H3.out, fun h => by cases h⟩ ?_
  · simp [execOp, Act.eval, Act.put, go_sem]
  refine wpAnyN_take false (i := 6) (v := .agg #[.int .i64 x1, .int .i64 x2]) rfl (by kernel_rfl) (by kernel_rfl) (by kernel_rfl) (fun _ _ _ h => h) (.inl ⟨by kernel_rfl, fun W hS => ?_⟩) ⟨H3.out, fun h => by cases h⟩ ?_
  · simp [execOp, Act.eval, Act.put, go_sem, (HC.out _ hS.1).1, (HC.out _ hS.1).2]
  refine wpAnyN_take false (i := 8) (v := v1) rfl (by kernel_rfl) (by kernel_rfl) (by kernel_rfl) (fun _ _ _ h => h) (.inl ⟨by kernel_rfl, fun W hS => ?_⟩) ⟨H3.out, fun h => by cases h⟩ ?_
  · simp [execOp, Act.eval, Act.put, go_sem]
  refine wpAnyN_take false (i := 9) (v := .agg #[.int .i64 x1, .int .i64 x2]) rfl (by kernel_rfl) (by kernel_rfl) (by kernel_rfl) (fun _ _ _ h => h) (.inl ⟨by kernel_rfl, fun W hS => ?_⟩) ⟨H3.out, fun h => by cases h⟩ ?_
  · simp [execOp, Act.eval, Act.put, go_sem, (HC.out _ hS.1).1, (HC.out _ hS.1).2]
  refine wpAnyN_step (i := 7) (by kernel_rfl) rfl (by kernel_rfl) ?_
  intro K' hK
  try simp only [Act.put]
  go_simp
  refine (HPU.out _ _ (HR1.out.keep H3.out)).mono ?_
  rintro e w4 ⟨v4, rfl, hown4, hb4⟩
  have HP4 := Lib.hid (spans_of_own hown4 (by have := HL.out.2.1; omega))
  have H4 := Lib.hid (H3.out.trans (hb4.mono H3.out.size))
  clear hown4 hb4
  refine hK.out _ _ H4.out (fun h => absurd h (by decide)) ?_
  refine wpAnyN_step (i := 10) (by kernel_rfl) rfl (by kernel_rfl) ?_
  intro K' hK
  try simp only [Act.put]
  go_simp
  refine (HRP.out _ _ (HR1.out.keep H4.out)).mono ?_
  rintro e w5 ⟨v5, rfl, hown5, hb5⟩
  have HP5 := Lib.hid (spans_of_own hown5 (by have := HL.out.2.1; omega))
  have HP4' := Lib.hid (HP4.out.keep hb5)
  have H5 := Lib.hid (H4.out.trans (hb5.mono H4.out.size))
  clear hown5 hb5 HP4
  refine hK.out _ _ H5.out (fun h => absurd h (by decide)) ?_
  refine wpAnyN_step (i := 11) (by kernel_rfl) rfl (by kernel_rfl) ?_
  intro K' hK
  try simp only [Act.put]
  go_simp
  refine (HSA.out _ _ _ _ HP4'.out HP5.out).mono ?_
  rintro e w6 ⟨rfl, hb6⟩
  have H6 := Lib.hid (H5.out.trans (hb6.mono H5.out.size))
  clear hb6 HP4' HP5
  refine hK.out _ _ H6.out (fun h => absurd h (by decide)) ?_
  refine wpAnyN_take false (i := 12) (v := .bool true) rfl (by kernel_rfl) (by kernel_rfl) (by kernel_rfl) (fun _ _ _ h => h) (.inl ⟨by kernel_rfl, fun W hS => ?_⟩) ⟨H6.out, fun h => by cases h⟩ ?_
  · simp [execOp, Act.eval, go_sem]
  refine wpAnyN_take false (i := 13) (v := .bool true) rfl (by kernel_rfl) (by kernel_rfl) (by kernel_rfl) (fun _ _ _ h => h) (.inl ⟨by kernel_rfl, fun W hS => ?_⟩) ⟨H6.out, fun h => by cases h⟩ ?_
  · simp [execOp, Act.eval, Act.put, go_sem]
  refine wpAnyN_take false (i := 14) (v := .slice A m c) rfl (by kernel_rfl) (by kernel_rfl) (by kernel_rfl) (fun _ _ _ h => h) (.inl ⟨by kernel_rfl, fun W hS => ?_⟩) ⟨H6.out, fun h => by cases h⟩ ?_
  · simp [execOp, Act.eval, Act.put, go_sem]
  refine wpAnyN_take false (i := 15) (v := .int .i64 u) rfl (by kernel_rfl) (by kernel_rfl) (by kernel_rfl) (fun _ _ _ h => h) (.inl ⟨by kernel_rfl, fun W hS => ?_⟩) ⟨H6.out, fun h => by cases h⟩ ?_
  · simp [execOp, Act.eval, Act.put, go_sem]
  refine wpAnyN_take false (i := 17) (v := .slice A m c) rfl (by kernel_rfl) (by kernel_rfl) (by kernel_rfl) (fun _ _ _ h => h) (.inl ⟨by kernel_rfl, fun W hS => ?_⟩) ⟨H6.out, fun h => by cases h⟩ ?_
  · simp [execOp, Act.eval, Act.put, go_sem]
  refine wpAnyN_take false (i := 18) (v := .int .i64 u) rfl (by kernel_rfl) (by kernel_rfl) (by kernel_rfl) (fun _ _ _ h => h) (.inl ⟨by kernel_rfl, fun W hS => ?_⟩) ⟨H6.out, fun h => by cases h⟩ ?_
  · simp [execOp, Act.eval, Act.put, go_sem]
  refine wpAnyN_step (i := 16) (by kernel_rfl) rfl (by kernel_rfl) ?_
  intro K' hK
  try simp only [Act.put]
  go_simp
  refine (HWI.out _ _ (HS1.out.keep H6.out)).mono ?_
  rintro e w7 ⟨v7, rfl, hown7, hb7⟩
  have HP7 := Lib.hid (spans_of_own hown7 (by have := HL.out.2.2; omega))
  have H7 := Lib.hid (H6.out.trans (hb7.mono H6.out.size))
  clear hown7 hb7
  refine hK.out _ _ H7.out (fun h => absurd h (by decide)) ?_
  refine wpAnyN_step (i := 19) (by kernel_rfl) rfl (by kernel_rfl) ?_
  intro K' hK
  try simp only [Act.put]
  go_simp
  refine (HRW.out _ _ (HS1.out.keep H7.out)).mono ?_
  rintro e w8 ⟨v8, rfl, hown8, hb8⟩
  have HP8 := Lib.hid (spans_of_own hown8 (by have := HL.out.2.2; omega))
  have HP7' := Lib.hid (HP7.out.keep hb8)
  have H8 := Lib.hid (H7.out.trans (hb8.mono H7.out.size))
  clear hown8 hb8 HP7
  refine hK.out _ _ H8.out (fun h => absurd h (by decide)) ?_
  refine wpAnyN_step (i := 20) (by kernel_rfl) rfl (by kernel_rfl) ?_
  intro K' hK
  try simp only [Act.put]
  go_simp
  refine (HSA.out _ _ _ _ HP7'.out HP8.out).mono ?_
  rintro e w9 ⟨rfl, hb9⟩
  have H9 := Lib.hid (H8.out.trans (hb9.mono H8.out.size))
  clear hb9 HP7' HP8
  refine hK.out _ _ H9.out (fun h => absurd h (by decide)) ?_
  refine wpAnyN_take false (i := 21) (v := .bool true) rfl (by kernel_rfl) (by kernel_rfl) (by kernel_rfl) (fun _ _ _ h => h) (.inl ⟨by kernel_rfl, fun W hS => ?_⟩) ⟨H9.out, fun h => by cases h⟩ ?_
  · simp [execOp, Act.eval, go_sem]
  refine wpAnyN_take false (i := 22) (v := .bool true) rfl (by kernel_rfl) (by kernel_rfl) (by kernel_rfl) (fun _ _ _ h => h) (.inl ⟨by kernel_rfl, fun W hS => ?_⟩) ⟨H9.out, fun h => by cases h⟩ ?_
  · simp [execOp, Act.eval, Act.put, go_sem]
  refine wpAnyN_step (i := 23) (by kernel_rfl) rfl (by kernel_rfl) ?_
  intro K' hK
  try simp only [Act.put]
  go_simp
  refine (HAW.out _).mono ?_
  rintro e w10 ⟨rfl, hb10⟩
  have H10 := Lib.hid (H9.out.trans (hb10.mono H9.out.size))
  clear hb10
  refine hK.out _ _ H10.out (fun h => absurd h (by decide)) ?_
  refine wpAnyN_take false (i := 24) (v := .bool true) rfl (by kernel_rfl) (by kernel_rfl) (by kernel_rfl) (fun _ _ _ h => h) (.inl ⟨by kernel_rfl, fun W hS => ?_⟩) ⟨H10.out, fun h => by cases h⟩ ?_
  · simp [execOp, Act.eval, go_sem]
  refine wpAnyN_take false (i := 25) (v := .bool true) rfl (by kernel_rfl) (by kernel_rfl) (by kernel_rfl) (fun _ _ _ h => h) (.inl ⟨by kernel_rfl, fun W hS => ?_⟩) ⟨H10.out, fun h => by cases h⟩ ?_
  · simp [execOp, Act.eval, Act.put, go_sem]
  refine wpAnyN_done (by kernel_rfl) ?_
  try simp only [Act.put]
  try go_simp
  go_wp2
  go_ret
  exact ⟨rfl, HB1.out.trans (H10.out.mono HB1.out.size)⟩
end Go.Proofs.Ytiikddemjjikfaa
