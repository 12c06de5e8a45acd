/-
  The document's names of a command's fields; a field by its name, read and written.
  Conditions: none.
-/
import Derived.Test.YtnddojngbolbfaaDoorCmdAt
import Derived.Laws.ResultCell
import Derived.Laws.Rows
set_option linter.unusedVariables false
namespace Go.Proofs.YtnddojngbolbfaaDoor
open Go.RowKit

/-- A member's letter. -/
def nameN (j : Nat) : Nat := if j = 5 then 99 else if j = 4 then 119 else if j = 2 then 103 else if j = 1 then 105 else if j = 3 then 115 else if j = 6 then 107 else 110
def nameU (j : Nat) : UInt8 := (nameN j).toUInt8
/-- The names of a kind's fields. -/
def nameS (op : Int) : ByteArray := match fieldsT op with | none => ⟨#[120]⟩ | some fs => ⟨(fs.map nameU).toArray⟩

set_option maxRecDepth 100000 in
set_option maxHeartbeats 1000000 in
theorem names_none (op : Int) (w : World) (hn : fieldsT op = none) : Calls Tryd.prog 8 #[.int .i64 op] w (Ret (.string ⟨#[120]⟩) w) := by
  have hk := fieldsT_none hn
  have k9 : (op == 9) = false := by simpa using hk 9 (by decide)
  have k12 : (op == 12) = false := by simpa using hk 12 (by decide)
  have k2 : (op == 2) = false := by simpa using hk 2 (by decide)
  have k4 : (op == 4) = false := by simpa using hk 4 (by decide)
  have k5 : (op == 5) = false := by simpa using hk 5 (by decide)
  have k17 : (op == 17) = false := by simpa using hk 17 (by decide)
  have k1 : (op == 1) = false := by simpa using hk 1 (by decide)
  have k3 : (op == 3) = false := by simpa using hk 3 (by decide)
  have k10 : (op == 10) = false := by simpa using hk 10 (by decide)
  have k11 : (op == 11) = false := by simpa using hk 11 (by decide)
  have k6 : (op == 6) = false := by simpa using hk 6 (by decide)
  have k7 : (op == 7) = false := by simpa using hk 7 (by decide)
  have k8 : (op == 8) = false := by simpa using hk 8 (by decide)
  have k13 : (op == 13) = false := by simpa using hk 13 (by decide)
  have k14 : (op == 14) = false := by simpa using hk 14 (by decide)
  have k16 : (op == 16) = false := by simpa using hk 16 (by decide)
  have k15 : (op == 15) = false := by simpa using hk 15 (by decide)
  clear hk hn
  go_enter Tryd.func8, Tryd.ntmps8
  go_wp2
  go_ret
  exact ⟨rfl, rfl⟩

set_option maxRecDepth 100000 in
set_option maxHeartbeats 4000000 in
theorem names_some (op : Int) (w : World) (h : op ∈ opsT) : Calls Tryd.prog 8 #[.int .i64 op] w (Ret (.string (nameS op)) w) := by
  unfold opsT at h
  simp only [List.mem_cons, List.not_mem_nil, or_false] at h
  rcases h with rfl | rfl | rfl | rfl | rfl | rfl | rfl | rfl | rfl | rfl | rfl | rfl | rfl | rfl | rfl | rfl | rfl
  all_goals
    go_enter Tryd.func8, Tryd.ntmps8
    go_wp2
    go_ret
    exact ⟨rfl, rfl⟩
theorem names_any (op : Int) (w : World) : Calls Tryd.prog 8 #[.int .i64 op] w (Ret (.string (nameS op)) w) := by
  cases h : fieldsT op with
  | none =>
    have e : nameS op = ⟨#[120]⟩ := by unfold nameS; rw [h]
    rw [e]
    exact names_none op w h
  | some fs => exact names_some op w (fieldsT_some h)

set_option maxRecDepth 100000 in
set_option maxHeartbeats 1000000 in
theorem get_5 (c : Cmd8) (w : World) : Calls Tryd.prog 24 #[.agg (cmdA c), .int .u8 99] w (RetB (.int .i64 (c 5)) w) := by
  have hb : Below w.heap.size w (w.alloc (.cells (cmdA c) 23)) := (Below.refl _ _).alloc (Nat.le_refl _) _
  have hc : CmdAt (w.alloc (.cells (cmdA c) 23)) w.heap.size c := World.alloc_heap_new _ _
  have e5 := hc.cell (j := 5) (by decide)
  have HB := Lib.hid hb
  clear hb hc
  go_enter Tryd.func24, Tryd.ntmps24
  go_wp2
  go_ret
  exact ⟨rfl, HB.out⟩

set_option maxRecDepth 100000 in
set_option maxHeartbeats 1000000 in
theorem get_4 (c : Cmd8) (w : World) : Calls Tryd.prog 24 #[.agg (cmdA c), .int .u8 119] w (RetB (.int .i64 (c 4)) w) := by
  have hb : Below w.heap.size w (w.alloc (.cells (cmdA c) 23)) := (Below.refl _ _).alloc (Nat.le_refl _) _
  have hc : CmdAt (w.alloc (.cells (cmdA c) 23)) w.heap.size c := World.alloc_heap_new _ _
  have e4 := hc.cell (j := 4) (by decide)
  have HB := Lib.hid hb
  clear hb hc
  go_enter Tryd.func24, Tryd.ntmps24
  go_wp2
  go_ret
  exact ⟨rfl, HB.out⟩

set_option maxRecDepth 100000 in
set_option maxHeartbeats 1000000 in
theorem get_2 (c : Cmd8) (w : World) : Calls Tryd.prog 24 #[.agg (cmdA c), .int .u8 103] w (RetB (.int .i64 (c 2)) w) := by
  have hb : Below w.heap.size w (w.alloc (.cells (cmdA c) 23)) := (Below.refl _ _).alloc (Nat.le_refl _) _
  have hc : CmdAt (w.alloc (.cells (cmdA c) 23)) w.heap.size c := World.alloc_heap_new _ _
  have e2 := hc.cell (j := 2) (by decide)
  have HB := Lib.hid hb
  clear hb hc
  go_enter Tryd.func24, Tryd.ntmps24
  go_wp2
  go_ret
  exact ⟨rfl, HB.out⟩

set_option maxRecDepth 100000 in
set_option maxHeartbeats 1000000 in
theorem get_1 (c : Cmd8) (w : World) : Calls Tryd.prog 24 #[.agg (cmdA c), .int .u8 105] w (RetB (.int .i64 (c 1)) w) := by
  have hb : Below w.heap.size w (w.alloc (.cells (cmdA c) 23)) := (Below.refl _ _).alloc (Nat.le_refl _) _
  have hc : CmdAt (w.alloc (.cells (cmdA c) 23)) w.heap.size c := World.alloc_heap_new _ _
  have e1 := hc.cell (j := 1) (by decide)
  have HB := Lib.hid hb
  clear hb hc
  go_enter Tryd.func24, Tryd.ntmps24
  go_wp2
  go_ret
  exact ⟨rfl, HB.out⟩

set_option maxRecDepth 100000 in
set_option maxHeartbeats 1000000 in
theorem get_3 (c : Cmd8) (w : World) : Calls Tryd.prog 24 #[.agg (cmdA c), .int .u8 115] w (RetB (.int .i64 (c 3)) w) := by
  have hb : Below w.heap.size w (w.alloc (.cells (cmdA c) 23)) := (Below.refl _ _).alloc (Nat.le_refl _) _
  have hc : CmdAt (w.alloc (.cells (cmdA c) 23)) w.heap.size c := World.alloc_heap_new _ _
  have e3 := hc.cell (j := 3) (by decide)
  have HB := Lib.hid hb
  clear hb hc
  go_enter Tryd.func24, Tryd.ntmps24
  go_wp2
  go_ret
  exact ⟨rfl, HB.out⟩

set_option maxRecDepth 100000 in
set_option maxHeartbeats 1000000 in
theorem get_6 (c : Cmd8) (w : World) : Calls Tryd.prog 24 #[.agg (cmdA c), .int .u8 107] w (RetB (.int .i64 (c 6)) w) := by
  have hb : Below w.heap.size w (w.alloc (.cells (cmdA c) 23)) := (Below.refl _ _).alloc (Nat.le_refl _) _
  have hc : CmdAt (w.alloc (.cells (cmdA c) 23)) w.heap.size c := World.alloc_heap_new _ _
  have e6 := hc.cell (j := 6) (by decide)
  have HB := Lib.hid hb
  clear hb hc
  go_enter Tryd.func24, Tryd.ntmps24
  go_wp2
  go_ret
  exact ⟨rfl, HB.out⟩

set_option maxRecDepth 100000 in
set_option maxHeartbeats 1000000 in
theorem get_7 (c : Cmd8) (w : World) : Calls Tryd.prog 24 #[.agg (cmdA c), .int .u8 110] w (RetB (.int .i64 (c 7)) w) := by
  have hb : Below w.heap.size w (w.alloc (.cells (cmdA c) 23)) := (Below.refl _ _).alloc (Nat.le_refl _) _
  have hc : CmdAt (w.alloc (.cells (cmdA c) 23)) w.heap.size c := World.alloc_heap_new _ _
  have e7 := hc.cell (j := 7) (by decide)
  have HB := Lib.hid hb
  clear hb hc
  go_enter Tryd.func24, Tryd.ntmps24
  go_wp2
  go_ret
  exact ⟨rfl, HB.out⟩

theorem get_any (c : Cmd8) (j : Nat) (h0 : 0 < j) (hj : j < 8) (w : World) : Calls Tryd.prog 24 #[.agg (cmdA c), .int .u8 (nameN j)] w (RetB (.int .i64 (c j)) w) := by
  match j, h0, hj with
  | 1, _, _ => exact get_1 c w
  | 2, _, _ => exact get_2 c w
  | 3, _, _ => exact get_3 c w
  | 4, _, _ => exact get_4 c w
  | 5, _, _ => exact get_5 c w
  | 6, _, _ => exact get_6 c w
  | 7, _, _ => exact get_7 c w

theorem Tryd.sizeCmd (c : Cmd8) : (Tryd.prog.info? 23).map (·.size) = some (cmdA c).size := by
  show _ = some 8
  kernel_rfl
/-- Eight stores over a command. -/
theorem CmdAt.all {W : World} {b : Nat} {c : Cmd8} (h : CmdAt W b c) (d : Cmd8) :
    CmdAt ((((((((W.setCell ⟨b, 0, none⟩ (.int .i64 (d 0))).setCell ⟨b, 1, none⟩ (.int .i64 (d 1))).setCell ⟨b, 2, none⟩ (.int .i64 (d 2))).setCell ⟨b, 3, none⟩ (.int .i64 (d 3))).setCell ⟨b, 4, none⟩ (.int .i64 (d 4))).setCell ⟨b, 5, none⟩ (.int .i64 (d 5))).setCell ⟨b, 6, none⟩ (.int .i64 (d 6))).setCell ⟨b, 7, none⟩ (.int .i64 (d 7))) b d :=
  (((((((h.set (j := 0) (by decide) (d 0)).set (j := 1) (by decide) (d 1)).set (j := 2) (by decide) (d 2)).set (j := 3) (by decide) (d 3)).set (j := 4) (by decide) (d 4)).set (j := 5) (by decide) (d 5)).set (j := 6) (by decide) (d 6)).set (j := 7) (by decide) (d 7)
theorem below_all {B : Nat} {W0 W : World} {b : Nat} (h : Below B W0 W) (hb : B ≤ b) (d : Cmd8) :
    Below B W0 ((((((((W.setCell ⟨b, 0, none⟩ (.int .i64 (d 0))).setCell ⟨b, 1, none⟩ (.int .i64 (d 1))).setCell ⟨b, 2, none⟩ (.int .i64 (d 2))).setCell ⟨b, 3, none⟩ (.int .i64 (d 3))).setCell ⟨b, 4, none⟩ (.int .i64 (d 4))).setCell ⟨b, 5, none⟩ (.int .i64 (d 5))).setCell ⟨b, 6, none⟩ (.int .i64 (d 6))).setCell ⟨b, 7, none⟩ (.int .i64 (d 7))) :=
  (((((((h.setCell (p := ⟨b, 0, none⟩) hb _).setCell (p := ⟨b, 1, none⟩) hb _).setCell (p := ⟨b, 2, none⟩) hb _).setCell (p := ⟨b, 3, none⟩) hb _).setCell (p := ⟨b, 4, none⟩) hb _).setCell (p := ⟨b, 5, none⟩) hb _).setCell (p := ⟨b, 6, none⟩) hb _).setCell (p := ⟨b, 7, none⟩) hb _
end Go.Proofs.YtnddojngbolbfaaDoor
