/-
  An error value of the program in memory, with its links: nil, or a pointer to a Fault; and the closed facts on its dynamic types.
  Conditions: none beyond those that each statement lists.
-/
import Derived.Test.YtnddojngbolbfaaDoorAsA
import Derived.Below
namespace Go.Proofs.YtnddojngbolbfaaDoor
open Go.RowKit Go.Extern.Stop Go.Stop Go.Extern

/-- A link, and the block of the Fault that bears it. -/
structure Item where
  b : Nat
  code : Int
  part : ByteArray
  pos : Int

/-- The pointer to a Fault's block. -/
def Item.ptr (i : Item) : Value := .pointer (some ⟨i.b, 0, none⟩)

/-- The value 'v' is an error in 'w', its Faults lie in blocks below B, the outermost first. -/
inductive Chain (B : Nat) (w : World) : Value → List Item → Prop
  | nil : Chain B w .nilIface []
  | fault (i : Item) {v : Value} {is : List Item} (hb : i.b < B) (hc : w.heap[i.b]? = some (.cells #[.int .i64 i.code, .string i.part, .int .i64 i.pos, v] 83 (0, 0))) (c : Chain B w v is) :
      Chain B w (.iface 80 (.pointer (some ⟨i.b, 0, none⟩))) (i :: is)

theorem Chain.kept {B : Nat} {w w' : World} {v : Value} {is : List Item} (c : Chain B w v is) {C : Nat} (hBC : B ≤ C) (h : Below C w w') : Chain B w' v is := by
  induction c with
  | nil => exact .nil
  | fault i hb hc _ ih => exact .fault i hb (by rw [h.block _ (by omega)]; exact hc) ih

theorem Chain.up {B : Nat} {w : World} {v : Value} {is : List Item} (c : Chain B w v is) {C : Nat} (hBC : B ≤ C) : Chain C w v is := by
  induction c with
  | nil => exact .nil
  | fault i hb hc _ ih => exact .fault i (by omega) hc ih

theorem cell_of_block4 {w : World} {b : Nat} {x0 x1 x2 x3 : Value} {T : TypeId} (h : w.heap[b]? = some (.cells #[x0, x1, x2, x3] T (0, 0))) :
    w.cell? ⟨b, 0, none⟩ = some x0 ∧ w.cell? ⟨b, 1, none⟩ = some x1 ∧ w.cell? ⟨b, 2, none⟩ = some x2 ∧ w.cell? ⟨b, 3, none⟩ = some x3 := by
  refine ⟨?_, ?_, ?_, ?_⟩ <;> simp [World.cell?, h]

theorem Tryd.asNoFault (v : Value) (xT : TypeId) (w : World) : (Instr.typeAssert (.iface 80 v) xT 140 true).run Tryd.prog w = .ok (.tuple #[.nilIface, .bool false]) w := run_typeAssert_lacksB Tryd.underlying140 (by kernel_rfl) (by kernel_rfl) v xT w
theorem Tryd.unFault (v : Value) (xT : TypeId) (w : World) : (Instr.typeAssert (.iface 80 v) xT 132 true).run Tryd.prog w = .ok (.tuple #[.iface 80 v, .bool true]) w := run_typeAssert_hasB Tryd.underlying132 (by kernel_rfl) v xT w
theorem Tryd.isFault (v : Value) (xT : TypeId) (w : World) : (Instr.typeAssert (.iface 80 v) xT 129 true).run Tryd.prog w = .ok (.tuple #[.iface 80 v, .bool true]) w := run_typeAssert_hasB Tryd.underlying129 (by kernel_rfl) v xT w
theorem Tryd.methodUnFault (p : Option Addr) (w : World) : (Go.method 287 80 (.pointer p) "Unwrap").run Tryd.prog w = .ok (106, .pointer p) w := by kernel_rfl
theorem Tryd.methodIsFault (p : Option Addr) (w : World) : (Go.method 287 80 (.pointer p) "Is").run Tryd.prog w = .ok (105, .pointer p) w := by kernel_rfl
end Go.Proofs.YtnddojngbolbfaaDoor
