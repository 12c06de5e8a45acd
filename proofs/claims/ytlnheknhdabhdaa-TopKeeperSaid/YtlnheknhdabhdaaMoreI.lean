/-
  Get, Len, New of a table of int.
  Conditions: the table lies in memory.
-/
import Derived.Test.YtlnheknhdabhdaaReadI
set_option linter.unusedVariables false
namespace Go.Proofs.Ytlnheknhdabhdaa.TI
open Go.RowKit

def getNone : Value := .tuple #[.int .i64 0, .bool false]
def getV (s : Ts Int) (q g : Int) : Value := if inU s q = true ∧ (s.gen (q.toNat - 1) : Int) = g then .tuple #[Value.int .i64 (s.x (q.toNat - 1)), .bool true] else getNone
def RetNew (n : Nat) (w : World) (e : Ending) (w' : World) : Prop :=
  e = .returned (.tuple #[.pointer (some ⟨w.heap.size, 0, none⟩), .int .i64 0]) ∧ TabAt w' w.heap.size (.slice none 0 0) (.slice none 0 0) (newT n 0) ∧ Below w.heap.size w w'
set_option maxRecDepth 100000 in
set_option maxHeartbeats 2000000 in
theorem new_ok (W : World) (n : Nat) (h0 : 0 < n) (h1 : n ≤ 1024) : Calls Try.prog 37 #[.int .i64 n] W (RetNew n W) := by
  have z1 : ¬ (n : Int) < 1 := by omega
  have z2 : ¬ (1024 : Int) < (n : Int) := by omega
  have z3 : decide ((n : Int) < 1) = false := decide_eq_false z1
  have z4 : decide ((1024 : Int) < (n : Int)) = false := decide_eq_false z2
  go_enter Try.func37, Try.ntmps37
  go_wp2
  go_returns
  refine ⟨rfl, ⟨heap_alloc_new W _, .inl ⟨rfl, rfl⟩, .inl ⟨rfl, rfl⟩, by simp [Value.ownBlock], by simp [Value.ownBlock], by simp [Value.ownBlock]⟩, (Below.refl _ _).alloc (Nat.le_refl _) _⟩
theorem new_bad (W : World) (n : Int) (h : n < 1 ∨ 1024 < n) : Calls Try.prog 37 #[.int .i64 n] W (Ret (.tuple #[.pointer none, .int .i64 1]) W) := by
  by_cases h0 : n < 1
  · go_enter Try.func37, Try.ntmps37
    go_wp2
    go_returns
    exact ⟨rfl, rfl⟩
  · have h1 : 1024 < n := by omega
    have z3 : decide (n < 1) = false := decide_eq_false h0
    go_enter Try.func37, Try.ntmps37
    go_wp2
    go_returns
    exact ⟨rfl, rfl⟩
end Go.Proofs.Ytlnheknhdabhdaa.TI
