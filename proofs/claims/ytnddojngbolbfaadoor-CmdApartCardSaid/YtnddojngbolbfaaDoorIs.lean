/-
  (*fault.Fault).Is and Unwrap: what a Fault answers by itself.
  Conditions: none beyond those that each statement lists.
-/
import Derived.Test.YtnddojngbolbfaaDoorMake
import Derived.Laws.StructEq
import Derived.Laws.Pointers
import Derived.Deep.QuietTactic
import Derived.BigQuiet
import Derived.WalkSmall
namespace Go.Proofs.YtnddojngbolbfaaDoor
open Go.RowKit Go.Extern.Stop Go.Stop Go.Extern

theorem Tryd.eqLink (a b c d : Int) (p q : ByteArray) (w : World) : (Op.equalIn 10000 51 (.agg #[.int .i64 a, .string p, .int .i64 b]) (.agg #[.int .i64 c, .string q, .int .i64 d])).run Tryd.prog w = .ok (a == c && p.toList == q.toList && b == d) w := by
  have u3 := Tryd.underlying3
  have a3 := Tryd.isAgg3
  have z3 := Tryd.sizeOf3
  have u9 := Tryd.underlying9
  have a9 := Tryd.isAgg9
  have z9 := Tryd.sizeOf9
  have u33 := Tryd.underlying43
  have a33 := Tryd.isAgg43
  have z33 := Tryd.sizeOf43
  have hS : Tryd.prog.underlying 51 = some (.struct (Tryd.prog.fieldsOf 51)) := by kernel_rfl
  rw [show (10000 : Nat) = 9999 + 1 from rfl, run_equalIn_agg w 9999 51 _ _ hS (by kernel_rfl)]
  simp only [Program.fieldsOf, Tryd.underlying51]
  go_simp
  by_cases h1 : a = c <;> by_cases h2 : p.toList = q.toList <;> by_cases h3 : b = d <;> simp [h1, h2, h3]

theorem Tryd.buildLink (a : Int) (w : World) : (Instr.build 51 #[(0, .int .i64 a)]).run Tryd.prog w = .ok (.agg #[.int .i64 a, .string ⟨#[]⟩, .int .i64 0]) w := by kernel_rfl

theorem Tryd.toFault (v : Value) (w : World) : (Instr.typeAssert (.iface 80 v) 27 80 true).run Tryd.prog w = .ok (.tuple #[v, .bool true]) w := by kernel_rfl
def Ans (b : Bool) (w : World) (e : Ending) (w' : World) : Prop := e = .returned (.bool b) ∧ Below w.heap.size w w'

set_option maxRecDepth 100000 in
set_option maxHeartbeats 2000000 in
theorem faultIs_link (a tb : Nat) (c c' s' : Int) (p' : ByteArray) (w : World) (ha : w.cell? ⟨a, 0, none⟩ = some (.int .i64 c))
    (h0 : w.cell? ⟨tb, 0, none⟩ = some (.int .i64 c')) (h1 : w.cell? ⟨tb, 1, none⟩ = some (.string p')) (h2 : w.cell? ⟨tb, 2, none⟩ = some (.int .i64 s')) (h3 : w.cell? ⟨tb, 3, none⟩ = some .nilIface) :
    Calls Tryd.prog 105 #[.pointer (some ⟨a, 0, none⟩), .iface 80 (.pointer (some ⟨tb, 0, none⟩))] w (Ans (c' == c && p'.toList == [] && s' == 0) w) := by
  have hE := fun W => run_eql_nil_nil (P := Tryd.prog) W 27 (by kernel_rfl)
  have hq := Tryd.eqLink
  have hb := Tryd.buildLink
  have hT := Tryd.toFault
  go_enter Tryd.func105, Tryd.ntmps105
  go_wp2
  go_quiet (fail)
  go_wp2
  go_ret
  refine ⟨?_, below_drewN (Below.refl _ _) _⟩
  simp

set_option maxRecDepth 100000 in
set_option maxHeartbeats 2000000 in
theorem faultIs_inner (a tb : Nat) (T : TypeId) (x : Value) (w : World) (h3 : w.cell? ⟨tb, 3, none⟩ = some (.iface T x)) :
    Calls Tryd.prog 105 #[.pointer (some ⟨a, 0, none⟩), .iface 80 (.pointer (some ⟨tb, 0, none⟩))] w (Ans false w) := by
  have hE := fun W => run_eql_held_nil (P := Tryd.prog) W 27 T x (by kernel_rfl)
  have hT := Tryd.toFault
  go_enter Tryd.func105, Tryd.ntmps105
  go_wp2
  go_quiet (fail)
  go_wp2
  go_ret
  exact ⟨rfl, below_drewN (Below.refl _ _) _⟩

set_option maxRecDepth 100000 in
set_option maxHeartbeats 2000000 in
theorem faultIs_nil (x : Value) (w : World) :
    Calls Tryd.prog 105 #[.pointer none, .iface 80 x] w (Ans false w) := by
  have hT := Tryd.toFault
  go_enter Tryd.func105, Tryd.ntmps105
  go_wp2
  go_ret
  exact ⟨rfl, Below.refl _ _⟩

set_option maxHeartbeats 1000000 in
theorem unwrap_some (a : Nat) (v : Value) (w : World) (h : w.cell? ⟨a, 3, none⟩ = some v) :
    Calls Tryd.prog 106 #[.pointer (some ⟨a, 0, none⟩)] w fun e w' => e = .returned v ∧ w = w' := by
  go_enter Tryd.func106, Tryd.ntmps106
  go_wp2
  go_ret
  exact ⟨rfl, rfl⟩

set_option maxHeartbeats 1000000 in
theorem unwrap_nil (w : World) :
    Calls Tryd.prog 106 #[.pointer none] w fun e w' => e = .returned .nilIface ∧ w = w' := by
  go_enter Tryd.func106, Tryd.ntmps106
  go_wp2
  go_ret
  exact ⟨rfl, rfl⟩
end Go.Proofs.YtnddojngbolbfaaDoor
