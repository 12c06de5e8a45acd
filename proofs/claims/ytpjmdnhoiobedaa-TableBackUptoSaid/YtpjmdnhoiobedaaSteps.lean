/-
  Steps of a region that draws its order: an append, the store of a struct, a row that is made.
  Conditions: none.
-/
import Derived.Test.YtpjmdnhoiobedaaOwners
import Derived.Test.YtpjmdnhoiobedaaLoads
import Derived.Test.YtpjmdnhoiobedaaRooms
set_option linter.unusedVariables false
namespace Go.Proofs.Ytpjmdnhoiobedaa
open Go.RowKit

/-- append in a region that draws, by its run. -/
theorem step_append_run16 {ops : Array Oper} {o : Oper} {a : Act} {w : World} {K : Act → World → Prop} {Q : Exit → Act → World → Prop} {E : Prop}
    (hg : o.guard = none) (d x : Operand) (dT sT : TypeId) (hop : o.op = Op.call { callee := Callee.builtin Builtin.append, args := #[d, x], argTypes := #[dT, sT] })
    (v u : Value) (hd : a.eval d = v) (hx : a.eval x = u) {v' : Value} {w' : World} (hr : (Builtin.append_ #[dT, sT] o.type #[v, u]).run Try.prog w = .ok v' w') (hK : K (a.put o.dst v') w') :
    if Region.wanted o (yielded ops a.tmps) = true then Oper.wp Try.prog o a w K Q else E := by
  have hw : Region.wanted o (yielded ops a.tmps) = true := by simp [Region.wanted, hg]
  rw [if_pos hw]
  unfold Oper.wp
  simp [execOp, hop, resolve, invoke, builtin, hd, hx, hr, Result.andThen]
  exact hK
theorem step_store_row16 {ops : Array Oper} {o : Oper} {a : Act} {w : World} {K : Act → World → Prop} {Q : Exit → Act → World → Prop} {E : Prop}
    (hg : o.guard = none) (ty : TypeId) (x y : Operand) (ho : o.op = .store ty x y)
    (g : Nat) (cells : Array Value) (hx : a.eval x = .pointer (some ⟨g, 0, none⟩)) (hy : a.eval y = .agg cells)
    (t : TypeId) (old : Array Value) (hgg : w.heap[g]? = some (.cells old t (0, 0))) (hi : (Try.prog.info? ty).map (·.size) = some cells.size)
    (hold : old.size = cells.size) (h1 : cells.all (·.oneCell') = true) (hK : K (a.put o.dst undef) (w.setRow g cells)) :
    if Region.wanted o (yielded ops a.tmps) = true then Oper.wp Try.prog o a w K Q else E := by
  have hw : Region.wanted o (yielded ops a.tmps) = true := by simp [Region.wanted, hg]
  rw [if_pos hw]
  exact wp_store_row ty x y ho g cells hx hy t old hgg hi hold h1 hK
theorem one3 (f : Int) (m : Nat) (A : Option Addr) (n d : Nat) : (#[.int .i64 f, .int .u32 m, .slice A n d] : Array Value).all (·.oneCell') = true := by simp [Value.oneCell']
theorem one3t (c : Int) (A : Option Addr) (n d : Nat) (B : Option Addr) (k e : Nat) : (#[.int .i64 c, .slice A n d, .slice B k e] : Array Value).all (·.oneCell') = true := by simp [Value.oneCell']
/-- make([]int, n): where. -/
theorem mk_any (W : World) (n : Nat) (h : n ≤ 1000) : ∃ w' g, (Instr.makeSlice 35 (.int .i64 (n : Int)) (.int .i64 (n : Int))).run Try.prog W = .ok (.slice (some ⟨g, 0, none⟩) n n) w' ∧ RowAt w' g (zeros n) ∧ W.heap.size ≤ g ∧ g < w'.heap.size ∧ Below W.heap.size W w' :=
  ⟨_, _, mk_ints W n h, RowAt.new _ _, Nat.le_refl _, (RowAt.new W (zeros n)).lt, (Below.refl _ W).alloc (Nat.le_refl _) _⟩
end Go.Proofs.Ytpjmdnhoiobedaa
