/-
  Two pairs of ints held against each other, as the model does it.
  Conditions: none.
-/
import Derived.Test.YtnigoojjbljibaaDoorBase
import Derived.ChangeKeysEq
import Derived.Laws.StructEq
set_option linter.unusedVariables false
namespace Go.Proofs.YtnigoojjbljibaaDoor
open Go.RowKit

theorem Tryd.cellsIntP : Tryd.prog.cellsOf 3 = 1 := by kernel_rfl

theorem eq_pair (w : World) (d : Nat) (a b c e : Int) :
    (Op.equalIn (d + 2) 42 (.agg #[.int .i64 a, .int .i64 b]) (.agg #[.int .i64 c, .int .i64 e])).run Tryd.prog w = .ok (a == c && b == e) w := by
  obtain ⟨i, hi, _⟩ := Option.map_eq_some_iff.1 Tryd.infoInt
  rw [run_equalIn_array w (d + 1) _ _ Tryd.underlying42 hi, Tryd.cellsIntP, show List.range 2 = [0, 1] from rfl]
  have p0 : ∀ (x y : Int) (W : World), (part 3 #[.int .i64 x, .int .i64 y] 0).run Tryd.prog W = .ok (.int .i64 x) W := by
    intro x y W
    simp [part, isAgg, run_underlying Tryd.underlying3]
  have p1 : ∀ (x y : Int) (W : World), (part 3 #[.int .i64 x, .int .i64 y] 1).run Tryd.prog W = .ok (.int .i64 y) W := by
    intro x y W
    simp [part, isAgg, run_underlying Tryd.underlying3]
  have q : ∀ (x y : Int) (W : World), (Op.equalIn (d + 1) 3 (.int .i64 x) (.int .i64 y)).run Tryd.prog W = .ok (x == y) W := by
    intro x y W
    rw [run_equalIn_int W d 3 .i64 .i64 _ _ Tryd.underlying3]
  simp only [Op.eqItems, Sem.run_bind, Nat.mul_one, p0, q, Result.andThen_ok]
  cases h1 : (a == c)
  · simp
  · cases h2 : (b == e) <;> simp [p1, q, h2]
end Go.Proofs.YtnigoojjbljibaaDoor
