/-
  What both stages' texts lean on, at this seat.
  Conditions: none.
-/
import Derived.Test.YtnigoojjbljibaaRow
set_option linter.unusedVariables false
namespace Go.Proofs.Ytnigoojjbljibaa
end Go.Proofs.Ytnigoojjbljibaa
