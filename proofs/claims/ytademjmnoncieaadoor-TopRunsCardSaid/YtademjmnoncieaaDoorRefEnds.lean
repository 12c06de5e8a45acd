/-
  The document's Lowest, Highest and Next; both Of; the program's Next, with math/bits.TrailingZeros64.
  Conditions: the numbers are of their kinds; the table of math/bits as start-up lays it, where it is read.
-/
import Derived.Test.YtademjmnoncieaaDoorTicks
import Derived.Test.YtademjmnoncieaaDoorCount
set_option linter.unusedVariables false
namespace Go.Proofs.YtademjmnoncieaaDoor
open Go.RowKit

def LowRel2 (m : Nat) (T : Nat) (s i : Value) : Prop := ∃ j : Nat, j ≤ T ∧ i = .int .i64 j ∧ s = .int .u64 (lowN m j)

/-- j places of c, from the end on. -/
def HighRel (m c T : Nat) (s n i : Value) : Prop := ∃ j : Nat, j ≤ T ∧ n = .int .i64 j ∧ i = .int .i64 ((c : Int) - 1 - j) ∧ s = .int .u64 (highN m (c - j))
end Go.Proofs.YtademjmnoncieaaDoor
