/-
  An error value of the program in memory, with its links: nil, an alien, something around an error, or a pointer to a Fault; and the closed facts on its dynamic types.
  Conditions: none beyond those that each statement lists.
-/
import Derived.Test.YtciebpijdgdcjaaDoorAsA
import Derived.Below
namespace Go.Proofs.YtciebpijdgdcjaaDoor
open Go.RowKit Go.Extern.Stop Go.Stop Go.Extern

/-- A link, and the block of the Fault that bears it. -/
structure Item where
  b : Nat
  code : Int
  part : ByteArray
  pos : Int

/-- The pointer to a Fault's block. -/
def Item.ptr (i : Item) : Value := .pointer (some ⟨i.b, 0, none⟩)

/-- The value 'v' is an error in 'w', its Faults lie in blocks below B, the outermost first. -/
inductive Chain (B : Nat) (w : World) : Value → List Item → Prop
  | nil : Chain B w .nilIface []
  | alien (n : Int) : Chain B w (.iface 61 (.agg #[.int .i64 n])) []
  | around {v : Value} {is : List Item} (h : v ≠ .nilIface) (c : Chain B w v is) : Chain B w (.iface 68 (.agg #[v])) is
  | fault (i : Item) {v : Value} {is : List Item} (hb : i.b < B) (hc : w.heap[i.b]? = some (.cells #[.int .i64 i.code, .string i.part, .int .i64 i.pos, v] 56 (0, 0))) (c : Chain B w v is) :
      Chain B w (.iface 54 (.pointer (some ⟨i.b, 0, none⟩))) (i :: is)

theorem Chain.kept {B : Nat} {w w' : World} {v : Value} {is : List Item} (c : Chain B w v is) {C : Nat} (hBC : B ≤ C) (h : Below C w w') : Chain B w' v is := by
  induction c with
  | nil => exact .nil
  | alien n => exact .alien n
  | around hv _ ih => exact .around hv ih
  | fault i hb hc _ ih => exact .fault i hb (by rw [h.block _ (by omega)]; exact hc) ih

theorem Chain.up {B : Nat} {w : World} {v : Value} {is : List Item} (c : Chain B w v is) {C : Nat} (hBC : B ≤ C) : Chain C w v is := by
  induction c with
  | nil => exact .nil
  | alien n => exact .alien n
  | around hv _ ih => exact .around hv ih
  | fault i hb hc _ ih => exact .fault i (by omega) hc ih

theorem cell_of_block4 {w : World} {b : Nat} {x0 x1 x2 x3 : Value} {T : TypeId} (h : w.heap[b]? = some (.cells #[x0, x1, x2, x3] T (0, 0))) :
    w.cell? ⟨b, 0, none⟩ = some x0 ∧ w.cell? ⟨b, 1, none⟩ = some x1 ∧ w.cell? ⟨b, 2, none⟩ = some x2 ∧ w.cell? ⟨b, 3, none⟩ = some x3 := by
  refine ⟨?_, ?_, ?_, ?_⟩ <;> simp [World.cell?, h]

theorem Tryd.asNoFault (v : Value) (xT : TypeId) (w : World) : (Instr.typeAssert (.iface 54 v) xT 116 true).run Tryd.prog w = .ok (.tuple #[.nilIface, .bool false]) w := run_typeAssert_lacksB Tryd.underlying116 (by kernel_rfl) (by kernel_rfl) v xT w
theorem Tryd.asNoAlien (v : Value) (xT : TypeId) (w : World) : (Instr.typeAssert (.iface 61 v) xT 116 true).run Tryd.prog w = .ok (.tuple #[.nilIface, .bool false]) w := run_typeAssert_lacksB Tryd.underlying116 (by kernel_rfl) (by kernel_rfl) v xT w
theorem Tryd.asNoAround (v : Value) (xT : TypeId) (w : World) : (Instr.typeAssert (.iface 68 v) xT 116 true).run Tryd.prog w = .ok (.tuple #[.nilIface, .bool false]) w := run_typeAssert_lacksB Tryd.underlying116 (by kernel_rfl) (by kernel_rfl) v xT w
theorem Tryd.unFault (v : Value) (xT : TypeId) (w : World) : (Instr.typeAssert (.iface 54 v) xT 96 true).run Tryd.prog w = .ok (.tuple #[.iface 54 v, .bool true]) w := run_typeAssert_hasB Tryd.underlying96 (by kernel_rfl) v xT w
theorem Tryd.unAround (v : Value) (xT : TypeId) (w : World) : (Instr.typeAssert (.iface 68 v) xT 96 true).run Tryd.prog w = .ok (.tuple #[.iface 68 v, .bool true]) w := run_typeAssert_hasB Tryd.underlying96 (by kernel_rfl) v xT w
theorem Tryd.unAlien (v : Value) (xT : TypeId) (w : World) : (Instr.typeAssert (.iface 61 v) xT 96 true).run Tryd.prog w = .ok (.tuple #[.nilIface, .bool false]) w := run_typeAssert_lacksB Tryd.underlying96 (by kernel_rfl) (by kernel_rfl) v xT w
theorem Tryd.unsAlien (v : Value) (xT : TypeId) (w : World) : (Instr.typeAssert (.iface 61 v) xT 97 true).run Tryd.prog w = .ok (.tuple #[.nilIface, .bool false]) w := run_typeAssert_lacksB Tryd.underlying97 (by kernel_rfl) (by kernel_rfl) v xT w
theorem Tryd.isFault (v : Value) (xT : TypeId) (w : World) : (Instr.typeAssert (.iface 54 v) xT 94 true).run Tryd.prog w = .ok (.tuple #[.iface 54 v, .bool true]) w := run_typeAssert_hasB Tryd.underlying94 (by kernel_rfl) v xT w
theorem Tryd.isAround (v : Value) (xT : TypeId) (w : World) : (Instr.typeAssert (.iface 68 v) xT 94 true).run Tryd.prog w = .ok (.tuple #[.nilIface, .bool false]) w := run_typeAssert_lacksB Tryd.underlying94 (by kernel_rfl) (by kernel_rfl) v xT w
theorem Tryd.isAlien (v : Value) (xT : TypeId) (w : World) : (Instr.typeAssert (.iface 61 v) xT 94 true).run Tryd.prog w = .ok (.tuple #[.nilIface, .bool false]) w := run_typeAssert_lacksB Tryd.underlying94 (by kernel_rfl) (by kernel_rfl) v xT w
theorem Tryd.methodUnAround (h : Value) (w : World) : (Go.method 265 68 (.agg #[h]) "Unwrap").run Tryd.prog w = .ok (85, .agg #[h]) w := by kernel_rfl
theorem Tryd.methodUnFault (p : Option Addr) (w : World) : (Go.method 265 54 (.pointer p) "Unwrap").run Tryd.prog w = .ok (23, .pointer p) w := by kernel_rfl
theorem Tryd.methodIsFault (p : Option Addr) (w : World) : (Go.method 265 54 (.pointer p) "Is").run Tryd.prog w = .ok (22, .pointer p) w := by kernel_rfl

/-- (around).Unwrap hands back what it is around. -/
theorem around_unwrap (v : Value) (w : World) : Calls Tryd.prog 85 #[.agg #[v]] w fun e w' => e = .returned v ∧ w' = w.alloc (.cells #[v] 68) := by
  go_enter Tryd.func85, Tryd.ntmps85
  go_wp2
  go_ret
  exact ⟨rfl, rfl⟩
end Go.Proofs.YtciebpijdgdcjaaDoor
