/-
  inUse, Find, Get, Len, New of a table of int.
  Conditions: the table lies in memory.
-/
import Derived.Test.YtlnheknhdabhdaaTabI
set_option linter.unusedVariables false
namespace Go.Proofs.Ytlnheknhdabhdaa.TI
open Go.RowKit

theorem inU_at {s : Ts Int} {q : Int} {i : Nat} (h0 : 1 ≤ q) (h1 : q ≤ (s.m : Int)) (h2 : q - 1 = (i : Int)) : inU s q = s.use i := by
  unfold inU
  rw [decide_eq_true ⟨h0, h1⟩, show q.toNat - 1 = i by omega]
  rfl
theorem inU_out {s : Ts Int} {q : Int} (h : ¬ (1 ≤ q ∧ q ≤ (s.m : Int))) : inU s q = false := by
  unfold inU
  rw [decide_eq_false h]
  rfl

/-- A table that New did not make. -/
def Bare (W : World) (tb : Nat) : Prop := W.heap[tb]? = some (.cells #[.int .i64 0, .slice none 0 0, .slice none 0 0] 89 (0, 0))
theorem Bare.heads {W : World} {tb : Nat} (h : Bare W tb) : W.cell? ⟨tb, 0, none⟩ = some (.int .i64 0) ∧ W.cell? ⟨tb, 1, none⟩ = some (.slice none 0 0) ∧ W.cell? ⟨tb, 2, none⟩ = some (.slice none 0 0) := by
  unfold Bare at h
  refine ⟨?_, ?_, ?_⟩ <;> simp [World.cell?, h]
theorem Bare.keep {W W' : World} {tb : Nat} (h : Bare W tb) (hk : Below W.heap.size W W') : Bare W' tb := (hk.block tb (heap_lt h)).trans h
def findNone : Value := .tuple #[.int .i64 0, .int .i64 0, .bool false]
def findV (s : Ts Int) (q : Int) : Value := if inU s q = true then .tuple #[Value.int .i64 (s.x (q.toNat - 1)), .int .i64 (s.gen (q.toNat - 1)), .bool true] else findNone
end Go.Proofs.Ytlnheknhdabhdaa.TI
