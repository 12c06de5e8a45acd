/-
  below of the program: the two places right below one.
  Conditions: a place of the row.
-/
import Derived.Test.YtademjmnoncieaaHas
set_option linter.unusedVariables false
namespace Go.Proofs.Ytademjmnoncieaa
open Go.RowKit

set_option maxRecDepth 100000 in
set_option maxHeartbeats 2000000 in
theorem below_any (W : World) (a : Nat) (ha : a ≤ 100000) :
    Calls Try.prog 45 #[.int .i64 a] W (RetB6 (.agg #[.int .i64 ((2 * a + 1 : Nat) : Int), .int .i64 ((2 * a + 2 : Nat) : Int)]) W) := by
  go_enter Try.func45, Try.ntmps45
  go_wp2
  refine bodyPost_ret (v := .agg #[.int .i64 ((2 * a + 1 : Nat) : Int), .int .i64 ((2 * a + 2 : Nat) : Int)]) ?_ rfl ⟨rfl, by go_grown⟩
  trace_state
  simp [results, Try.results45, go_sem]
end Go.Proofs.Ytademjmnoncieaa
