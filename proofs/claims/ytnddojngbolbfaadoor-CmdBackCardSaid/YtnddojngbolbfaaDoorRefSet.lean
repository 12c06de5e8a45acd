/-
  The document's Set: a field by its name, written.
  Conditions: none.
-/
import Derived.Test.YtnddojngbolbfaaDoorRefNames
set_option linter.unusedVariables false
namespace Go.Proofs.YtnddojngbolbfaaDoor
open Go.RowKit

set_option maxRecDepth 100000 in
set_option maxHeartbeats 1000000 in
theorem set_5 (c : Cmd8) (n : Int) (w : World) : Calls Tryd.prog 25 #[.agg (cmdA c), .int .u8 99, .int .i64 n] w (RetB (.agg (cmdA (updC c 5 n))) w) := by
  have hb : Below w.heap.size w (w.alloc (.cells (cmdA c) 23)) := (Below.refl _ _).alloc (Nat.le_refl _) _
  have hb2 := (hb.alloc (by simp) (.cells #[.int .i64 0, .int .i64 0, .int .i64 0, .int .i64 0, .int .i64 0, .int .i64 0, .int .i64 0, .int .i64 0] 23))
  have hc : CmdAt ((w.alloc (.cells (cmdA c) 23)).alloc (.cells #[.int .i64 0, .int .i64 0, .int .i64 0, .int .i64 0, .int .i64 0, .int .i64 0, .int .i64 0, .int .i64 0] 23)) w.heap.size c := CmdAt.keep (World.alloc_heap_new _ _) ((Below.refl _ _).alloc (Nat.le_refl _) _)
  have hz : CmdAt ((w.alloc (.cells (cmdA c) 23)).alloc (.cells #[.int .i64 0, .int .i64 0, .int .i64 0, .int .i64 0, .int .i64 0, .int .i64 0, .int .i64 0, .int .i64 0] 23)) (w.heap.size + 1) zeroC := by
    have := World.alloc_heap_new (w.alloc (.cells (cmdA c) 23)) (.cells #[.int .i64 0, .int .i64 0, .int .i64 0, .int .i64 0, .int .i64 0, .int .i64 0, .int .i64 0, .int .i64 0] 23)
    rwa [World.size_alloc] at this
  have HB2 := Lib.hid hb2
  clear hb hb2
  go_enter Tryd.func25, Tryd.ntmps25
  go_upto_region 1 with fail
  generalize hw : (w.alloc (.cells (cmdA c) 23)).alloc (.cells #[.int .i64 0, .int .i64 0, .int .i64 0, .int .i64 0, .int .i64 0, .int .i64 0, .int .i64 0, .int .i64 0] 23) = w1 at *
  have hne1 : w.heap.size ≠ w.heap.size + 1 := by omega
  have hne2 : w.heap.size + 1 ≠ w.heap.size := by omega
  have HR := Lib.hid ((hz.elsewhere hne2 (o := 5) (.int .i64 n)).all (updC c 5 n))
  have HB := Lib.hid (below_all (HB2.out.setCell (p := ⟨w.heap.size, 5, none⟩) (Nat.le_refl _) (.int .i64 n)) (b := w.heap.size + 1) (by omega) (updC c 5 n))
  clear HB2
  generalize w.heap.size + 1 = g at *
  obtain ⟨e0, e1, e2, e3, e4, e5, e6, e7⟩ := hc.eight
  obtain ⟨z0, z1, z2, z3, z4, z5, z6, z7⟩ := hz.eight
  have f5 := hc.frozen 5
  have fz := hz.frozen
  clear hc hz
  repeat go_step
  refine bodyPost_ret (v := .agg (cmdA (updC c 5 n))) (results_cell_row rfl _ _ g _ _ _ _ rfl HR.out Tryd.underlying23 rfl (Tryd.sizeCmd _)) rfl ?_
  exact ⟨rfl, HB.out⟩

set_option maxRecDepth 100000 in
set_option maxHeartbeats 1000000 in
theorem set_4 (c : Cmd8) (n : Int) (w : World) : Calls Tryd.prog 25 #[.agg (cmdA c), .int .u8 119, .int .i64 n] w (RetB (.agg (cmdA (updC c 4 n))) w) := by
  have hb : Below w.heap.size w (w.alloc (.cells (cmdA c) 23)) := (Below.refl _ _).alloc (Nat.le_refl _) _
  have hb2 := (hb.alloc (by simp) (.cells #[.int .i64 0, .int .i64 0, .int .i64 0, .int .i64 0, .int .i64 0, .int .i64 0, .int .i64 0, .int .i64 0] 23))
  have hc : CmdAt ((w.alloc (.cells (cmdA c) 23)).alloc (.cells #[.int .i64 0, .int .i64 0, .int .i64 0, .int .i64 0, .int .i64 0, .int .i64 0, .int .i64 0, .int .i64 0] 23)) w.heap.size c := CmdAt.keep (World.alloc_heap_new _ _) ((Below.refl _ _).alloc (Nat.le_refl _) _)
  have hz : CmdAt ((w.alloc (.cells (cmdA c) 23)).alloc (.cells #[.int .i64 0, .int .i64 0, .int .i64 0, .int .i64 0, .int .i64 0, .int .i64 0, .int .i64 0, .int .i64 0] 23)) (w.heap.size + 1) zeroC := by
    have := World.alloc_heap_new (w.alloc (.cells (cmdA c) 23)) (.cells #[.int .i64 0, .int .i64 0, .int .i64 0, .int .i64 0, .int .i64 0, .int .i64 0, .int .i64 0, .int .i64 0] 23)
    rwa [World.size_alloc] at this
  have HB2 := Lib.hid hb2
  clear hb hb2
  go_enter Tryd.func25, Tryd.ntmps25
  go_upto_region 1 with fail
  generalize hw : (w.alloc (.cells (cmdA c) 23)).alloc (.cells #[.int .i64 0, .int .i64 0, .int .i64 0, .int .i64 0, .int .i64 0, .int .i64 0, .int .i64 0, .int .i64 0] 23) = w1 at *
  have hne1 : w.heap.size ≠ w.heap.size + 1 := by omega
  have hne2 : w.heap.size + 1 ≠ w.heap.size := by omega
  have HR := Lib.hid ((hz.elsewhere hne2 (o := 4) (.int .i64 n)).all (updC c 4 n))
  have HB := Lib.hid (below_all (HB2.out.setCell (p := ⟨w.heap.size, 4, none⟩) (Nat.le_refl _) (.int .i64 n)) (b := w.heap.size + 1) (by omega) (updC c 4 n))
  clear HB2
  generalize w.heap.size + 1 = g at *
  obtain ⟨e0, e1, e2, e3, e4, e5, e6, e7⟩ := hc.eight
  obtain ⟨z0, z1, z2, z3, z4, z5, z6, z7⟩ := hz.eight
  have f4 := hc.frozen 4
  have fz := hz.frozen
  clear hc hz
  repeat go_step
  refine bodyPost_ret (v := .agg (cmdA (updC c 4 n))) (results_cell_row rfl _ _ g _ _ _ _ rfl HR.out Tryd.underlying23 rfl (Tryd.sizeCmd _)) rfl ?_
  exact ⟨rfl, HB.out⟩

set_option maxRecDepth 100000 in
set_option maxHeartbeats 1000000 in
theorem set_2 (c : Cmd8) (n : Int) (w : World) : Calls Tryd.prog 25 #[.agg (cmdA c), .int .u8 103, .int .i64 n] w (RetB (.agg (cmdA (updC c 2 n))) w) := by
  have hb : Below w.heap.size w (w.alloc (.cells (cmdA c) 23)) := (Below.refl _ _).alloc (Nat.le_refl _) _
  have hb2 := (hb.alloc (by simp) (.cells #[.int .i64 0, .int .i64 0, .int .i64 0, .int .i64 0, .int .i64 0, .int .i64 0, .int .i64 0, .int .i64 0] 23))
  have hc : CmdAt ((w.alloc (.cells (cmdA c) 23)).alloc (.cells #[.int .i64 0, .int .i64 0, .int .i64 0, .int .i64 0, .int .i64 0, .int .i64 0, .int .i64 0, .int .i64 0] 23)) w.heap.size c := CmdAt.keep (World.alloc_heap_new _ _) ((Below.refl _ _).alloc (Nat.le_refl _) _)
  have hz : CmdAt ((w.alloc (.cells (cmdA c) 23)).alloc (.cells #[.int .i64 0, .int .i64 0, .int .i64 0, .int .i64 0, .int .i64 0, .int .i64 0, .int .i64 0, .int .i64 0] 23)) (w.heap.size + 1) zeroC := by
    have := World.alloc_heap_new (w.alloc (.cells (cmdA c) 23)) (.cells #[.int .i64 0, .int .i64 0, .int .i64 0, .int .i64 0, .int .i64 0, .int .i64 0, .int .i64 0, .int .i64 0] 23)
    rwa [World.size_alloc] at this
  have HB2 := Lib.hid hb2
  clear hb hb2
  go_enter Tryd.func25, Tryd.ntmps25
  go_upto_region 1 with fail
  generalize hw : (w.alloc (.cells (cmdA c) 23)).alloc (.cells #[.int .i64 0, .int .i64 0, .int .i64 0, .int .i64 0, .int .i64 0, .int .i64 0, .int .i64 0, .int .i64 0] 23) = w1 at *
  have hne1 : w.heap.size ≠ w.heap.size + 1 := by omega
  have hne2 : w.heap.size + 1 ≠ w.heap.size := by omega
  have HR := Lib.hid ((hz.elsewhere hne2 (o := 2) (.int .i64 n)).all (updC c 2 n))
  have HB := Lib.hid (below_all (HB2.out.setCell (p := ⟨w.heap.size, 2, none⟩) (Nat.le_refl _) (.int .i64 n)) (b := w.heap.size + 1) (by omega) (updC c 2 n))
  clear HB2
  generalize w.heap.size + 1 = g at *
  obtain ⟨e0, e1, e2, e3, e4, e5, e6, e7⟩ := hc.eight
  obtain ⟨z0, z1, z2, z3, z4, z5, z6, z7⟩ := hz.eight
  have f2 := hc.frozen 2
  have fz := hz.frozen
  clear hc hz
  repeat go_step
  refine bodyPost_ret (v := .agg (cmdA (updC c 2 n))) (results_cell_row rfl _ _ g _ _ _ _ rfl HR.out Tryd.underlying23 rfl (Tryd.sizeCmd _)) rfl ?_
  exact ⟨rfl, HB.out⟩

set_option maxRecDepth 100000 in
set_option maxHeartbeats 1000000 in
theorem set_1 (c : Cmd8) (n : Int) (w : World) : Calls Tryd.prog 25 #[.agg (cmdA c), .int .u8 105, .int .i64 n] w (RetB (.agg (cmdA (updC c 1 n))) w) := by
  have hb : Below w.heap.size w (w.alloc (.cells (cmdA c) 23)) := (Below.refl _ _).alloc (Nat.le_refl _) _
  have hb2 := (hb.alloc (by simp) (.cells #[.int .i64 0, .int .i64 0, .int .i64 0, .int .i64 0, .int .i64 0, .int .i64 0, .int .i64 0, .int .i64 0] 23))
  have hc : CmdAt ((w.alloc (.cells (cmdA c) 23)).alloc (.cells #[.int .i64 0, .int .i64 0, .int .i64 0, .int .i64 0, .int .i64 0, .int .i64 0, .int .i64 0, .int .i64 0] 23)) w.heap.size c := CmdAt.keep (World.alloc_heap_new _ _) ((Below.refl _ _).alloc (Nat.le_refl _) _)
  have hz : CmdAt ((w.alloc (.cells (cmdA c) 23)).alloc (.cells #[.int .i64 0, .int .i64 0, .int .i64 0, .int .i64 0, .int .i64 0, .int .i64 0, .int .i64 0, .int .i64 0] 23)) (w.heap.size + 1) zeroC := by
    have := World.alloc_heap_new (w.alloc (.cells (cmdA c) 23)) (.cells #[.int .i64 0, .int .i64 0, .int .i64 0, .int .i64 0, .int .i64 0, .int .i64 0, .int .i64 0, .int .i64 0] 23)
    rwa [World.size_alloc] at this
  have HB2 := Lib.hid hb2
  clear hb hb2
  go_enter Tryd.func25, Tryd.ntmps25
  go_upto_region 1 with fail
  generalize hw : (w.alloc (.cells (cmdA c) 23)).alloc (.cells #[.int .i64 0, .int .i64 0, .int .i64 0, .int .i64 0, .int .i64 0, .int .i64 0, .int .i64 0, .int .i64 0] 23) = w1 at *
  have hne1 : w.heap.size ≠ w.heap.size + 1 := by omega
  have hne2 : w.heap.size + 1 ≠ w.heap.size := by omega
  have HR := Lib.hid ((hz.elsewhere hne2 (o := 1) (.int .i64 n)).all (updC c 1 n))
  have HB := Lib.hid (below_all (HB2.out.setCell (p := ⟨w.heap.size, 1, none⟩) (Nat.le_refl _) (.int .i64 n)) (b := w.heap.size + 1) (by omega) (updC c 1 n))
  clear HB2
  generalize w.heap.size + 1 = g at *
  obtain ⟨e0, e1, e2, e3, e4, e5, e6, e7⟩ := hc.eight
  obtain ⟨z0, z1, z2, z3, z4, z5, z6, z7⟩ := hz.eight
  have f1 := hc.frozen 1
  have fz := hz.frozen
  clear hc hz
  repeat go_step
  refine bodyPost_ret (v := .agg (cmdA (updC c 1 n))) (results_cell_row rfl _ _ g _ _ _ _ rfl HR.out Tryd.underlying23 rfl (Tryd.sizeCmd _)) rfl ?_
  exact ⟨rfl, HB.out⟩

set_option maxRecDepth 100000 in
set_option maxHeartbeats 1000000 in
theorem set_3 (c : Cmd8) (n : Int) (w : World) : Calls Tryd.prog 25 #[.agg (cmdA c), .int .u8 115, .int .i64 n] w (RetB (.agg (cmdA (updC c 3 n))) w) := by
  have hb : Below w.heap.size w (w.alloc (.cells (cmdA c) 23)) := (Below.refl _ _).alloc (Nat.le_refl _) _
  have hb2 := (hb.alloc (by simp) (.cells #[.int .i64 0, .int .i64 0, .int .i64 0, .int .i64 0, .int .i64 0, .int .i64 0, .int .i64 0, .int .i64 0] 23))
  have hc : CmdAt ((w.alloc (.cells (cmdA c) 23)).alloc (.cells #[.int .i64 0, .int .i64 0, .int .i64 0, .int .i64 0, .int .i64 0, .int .i64 0, .int .i64 0, .int .i64 0] 23)) w.heap.size c := CmdAt.keep (World.alloc_heap_new _ _) ((Below.refl _ _).alloc (Nat.le_refl _) _)
  have hz : CmdAt ((w.alloc (.cells (cmdA c) 23)).alloc (.cells #[.int .i64 0, .int .i64 0, .int .i64 0, .int .i64 0, .int .i64 0, .int .i64 0, .int .i64 0, .int .i64 0] 23)) (w.heap.size + 1) zeroC := by
    have := World.alloc_heap_new (w.alloc (.cells (cmdA c) 23)) (.cells #[.int .i64 0, .int .i64 0, .int .i64 0, .int .i64 0, .int .i64 0, .int .i64 0, .int .i64 0, .int .i64 0] 23)
    rwa [World.size_alloc] at this
  have HB2 := Lib.hid hb2
  clear hb hb2
  go_enter Tryd.func25, Tryd.ntmps25
  go_upto_region 1 with fail
  generalize hw : (w.alloc (.cells (cmdA c) 23)).alloc (.cells #[.int .i64 0, .int .i64 0, .int .i64 0, .int .i64 0, .int .i64 0, .int .i64 0, .int .i64 0, .int .i64 0] 23) = w1 at *
  have hne1 : w.heap.size ≠ w.heap.size + 1 := by omega
  have hne2 : w.heap.size + 1 ≠ w.heap.size := by omega
  have HR := Lib.hid ((hz.elsewhere hne2 (o := 3) (.int .i64 n)).all (updC c 3 n))
  have HB := Lib.hid (below_all (HB2.out.setCell (p := ⟨w.heap.size, 3, none⟩) (Nat.le_refl _) (.int .i64 n)) (b := w.heap.size + 1) (by omega) (updC c 3 n))
  clear HB2
  generalize w.heap.size + 1 = g at *
  obtain ⟨e0, e1, e2, e3, e4, e5, e6, e7⟩ := hc.eight
  obtain ⟨z0, z1, z2, z3, z4, z5, z6, z7⟩ := hz.eight
  have f3 := hc.frozen 3
  have fz := hz.frozen
  clear hc hz
  repeat go_step
  refine bodyPost_ret (v := .agg (cmdA (updC c 3 n))) (results_cell_row rfl _ _ g _ _ _ _ rfl HR.out Tryd.underlying23 rfl (Tryd.sizeCmd _)) rfl ?_
  exact ⟨rfl, HB.out⟩

set_option maxRecDepth 100000 in
set_option maxHeartbeats 1000000 in
theorem set_6 (c : Cmd8) (n : Int) (w : World) : Calls Tryd.prog 25 #[.agg (cmdA c), .int .u8 107, .int .i64 n] w (RetB (.agg (cmdA (updC c 6 n))) w) := by
  have hb : Below w.heap.size w (w.alloc (.cells (cmdA c) 23)) := (Below.refl _ _).alloc (Nat.le_refl _) _
  have hb2 := (hb.alloc (by simp) (.cells #[.int .i64 0, .int .i64 0, .int .i64 0, .int .i64 0, .int .i64 0, .int .i64 0, .int .i64 0, .int .i64 0] 23))
  have hc : CmdAt ((w.alloc (.cells (cmdA c) 23)).alloc (.cells #[.int .i64 0, .int .i64 0, .int .i64 0, .int .i64 0, .int .i64 0, .int .i64 0, .int .i64 0, .int .i64 0] 23)) w.heap.size c := CmdAt.keep (World.alloc_heap_new _ _) ((Below.refl _ _).alloc (Nat.le_refl _) _)
  have hz : CmdAt ((w.alloc (.cells (cmdA c) 23)).alloc (.cells #[.int .i64 0, .int .i64 0, .int .i64 0, .int .i64 0, .int .i64 0, .int .i64 0, .int .i64 0, .int .i64 0] 23)) (w.heap.size + 1) zeroC := by
    have := World.alloc_heap_new (w.alloc (.cells (cmdA c) 23)) (.cells #[.int .i64 0, .int .i64 0, .int .i64 0, .int .i64 0, .int .i64 0, .int .i64 0, .int .i64 0, .int .i64 0] 23)
    rwa [World.size_alloc] at this
  have HB2 := Lib.hid hb2
  clear hb hb2
  go_enter Tryd.func25, Tryd.ntmps25
  go_upto_region 1 with fail
  generalize hw : (w.alloc (.cells (cmdA c) 23)).alloc (.cells #[.int .i64 0, .int .i64 0, .int .i64 0, .int .i64 0, .int .i64 0, .int .i64 0, .int .i64 0, .int .i64 0] 23) = w1 at *
  have hne1 : w.heap.size ≠ w.heap.size + 1 := by omega
  have hne2 : w.heap.size + 1 ≠ w.heap.size := by omega
  have HR := Lib.hid ((hz.elsewhere hne2 (o := 6) (.int .i64 n)).all (updC c 6 n))
  have HB := Lib.hid (below_all (HB2.out.setCell (p := ⟨w.heap.size, 6, none⟩) (Nat.le_refl _) (.int .i64 n)) (b := w.heap.size + 1) (by omega) (updC c 6 n))
  clear HB2
  generalize w.heap.size + 1 = g at *
  obtain ⟨e0, e1, e2, e3, e4, e5, e6, e7⟩ := hc.eight
  obtain ⟨z0, z1, z2, z3, z4, z5, z6, z7⟩ := hz.eight
  have f6 := hc.frozen 6
  have fz := hz.frozen
  clear hc hz
  repeat go_step
  refine bodyPost_ret (v := .agg (cmdA (updC c 6 n))) (results_cell_row rfl _ _ g _ _ _ _ rfl HR.out Tryd.underlying23 rfl (Tryd.sizeCmd _)) rfl ?_
  exact ⟨rfl, HB.out⟩

set_option maxRecDepth 100000 in
set_option maxHeartbeats 1000000 in
theorem set_7 (c : Cmd8) (n : Int) (w : World) : Calls Tryd.prog 25 #[.agg (cmdA c), .int .u8 110, .int .i64 n] w (RetB (.agg (cmdA (updC c 7 n))) w) := by
  have hb : Below w.heap.size w (w.alloc (.cells (cmdA c) 23)) := (Below.refl _ _).alloc (Nat.le_refl _) _
  have hb2 := (hb.alloc (by simp) (.cells #[.int .i64 0, .int .i64 0, .int .i64 0, .int .i64 0, .int .i64 0, .int .i64 0, .int .i64 0, .int .i64 0] 23))
  have hc : CmdAt ((w.alloc (.cells (cmdA c) 23)).alloc (.cells #[.int .i64 0, .int .i64 0, .int .i64 0, .int .i64 0, .int .i64 0, .int .i64 0, .int .i64 0, .int .i64 0] 23)) w.heap.size c := CmdAt.keep (World.alloc_heap_new _ _) ((Below.refl _ _).alloc (Nat.le_refl _) _)
  have hz : CmdAt ((w.alloc (.cells (cmdA c) 23)).alloc (.cells #[.int .i64 0, .int .i64 0, .int .i64 0, .int .i64 0, .int .i64 0, .int .i64 0, .int .i64 0, .int .i64 0] 23)) (w.heap.size + 1) zeroC := by
    have := World.alloc_heap_new (w.alloc (.cells (cmdA c) 23)) (.cells #[.int .i64 0, .int .i64 0, .int .i64 0, .int .i64 0, .int .i64 0, .int .i64 0, .int .i64 0, .int .i64 0] 23)
    rwa [World.size_alloc] at this
  have HB2 := Lib.hid hb2
  clear hb hb2
  go_enter Tryd.func25, Tryd.ntmps25
  go_upto_region 1 with fail
  generalize hw : (w.alloc (.cells (cmdA c) 23)).alloc (.cells #[.int .i64 0, .int .i64 0, .int .i64 0, .int .i64 0, .int .i64 0, .int .i64 0, .int .i64 0, .int .i64 0] 23) = w1 at *
  have hne1 : w.heap.size ≠ w.heap.size + 1 := by omega
  have hne2 : w.heap.size + 1 ≠ w.heap.size := by omega
  have HR := Lib.hid ((hz.elsewhere hne2 (o := 7) (.int .i64 n)).all (updC c 7 n))
  have HB := Lib.hid (below_all (HB2.out.setCell (p := ⟨w.heap.size, 7, none⟩) (Nat.le_refl _) (.int .i64 n)) (b := w.heap.size + 1) (by omega) (updC c 7 n))
  clear HB2
  generalize w.heap.size + 1 = g at *
  obtain ⟨e0, e1, e2, e3, e4, e5, e6, e7⟩ := hc.eight
  obtain ⟨z0, z1, z2, z3, z4, z5, z6, z7⟩ := hz.eight
  have f7 := hc.frozen 7
  have fz := hz.frozen
  clear hc hz
  repeat go_step
  refine bodyPost_ret (v := .agg (cmdA (updC c 7 n))) (results_cell_row rfl _ _ g _ _ _ _ rfl HR.out Tryd.underlying23 rfl (Tryd.sizeCmd _)) rfl ?_
  exact ⟨rfl, HB.out⟩

theorem set_any (c : Cmd8) (j : Nat) (h0 : 0 < j) (hj : j < 8) (n : Int) (w : World) : Calls Tryd.prog 25 #[.agg (cmdA c), .int .u8 (nameN j), .int .i64 n] w (RetB (.agg (cmdA (updC c j n))) w) := by
  match j, h0, hj with
  | 1, _, _ => exact set_1 c n w
  | 2, _, _ => exact set_2 c n w
  | 3, _, _ => exact set_3 c n w
  | 4, _, _ => exact set_4 c n w
  | 5, _, _ => exact set_5 c n w
  | 6, _, _ => exact set_6 c n w
  | 7, _, _ => exact set_7 c n w
end Go.Proofs.YtnddojngbolbfaaDoor
