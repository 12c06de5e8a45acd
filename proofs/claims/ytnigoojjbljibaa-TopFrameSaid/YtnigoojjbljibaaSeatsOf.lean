/-
  Seats: what it answers, for every total and all weights.
  Conditions: none.
-/
import Derived.Test.YtnigoojjbljibaaQuotas
set_option linter.unusedVariables false
namespace Go.Proofs.Ytnigoojjbljibaa
open Go.RowKit

theorem qs_small {T : Int} {ws : List Int} (h : Right ws) (hT0 : 0 ≤ T) (hT : T ≤ 1048576) : Small (qs T ws) := by
  refine ⟨by rw [length_qs]; exact h.1, fun x hx => ?_⟩
  obtain ⟨y, hy, rfl⟩ := List.mem_map.1 hx
  have hb := h.2.1 y hy
  have hP0 : 0 ≤ T * y := Int.mul_nonneg hT0 hb.1
  have hP1 : T * y ≤ 1048576 * 1000 := Int.mul_le_mul hT hb.2 hb.1 (by omega)
  have e0 : 0 ≤ T * y / sumL ws := Int.ediv_nonneg hP0 (Int.le_of_lt h.2.2)
  have e1 : T * y / sumL ws ≤ T * y := Int.ediv_le_self _ hP0
  exact ⟨by omega, by omega⟩

def SeatsRel (ws : List Int) (sq m : Nat) (w : World) (gg : Nat) (q : Nat) (s : Value) (wr : World) : Prop :=
  ∃ k : Nat, k ≤ m ∧ q = m - k ∧ s = .int .i64 k ∧ Below w.heap.size w wr ∧ RowAt wr gg (gr ws (sq + k))
end Go.Proofs.Ytnigoojjbljibaa
