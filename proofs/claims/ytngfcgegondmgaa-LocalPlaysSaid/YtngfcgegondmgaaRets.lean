/-
  What a call answers that leaves all as it was.
  Conditions: none.
-/
import Derived.Test.YtngfcgegondmgaaOrderMath
set_option linter.unusedVariables false
namespace Go.Proofs.Ytngfcgegondmgaa
open Go.RowKit

/-- What a call answers that leaves all as it was. -/
def Ret (v : Value) (w : World) (e : Ending) (w' : World) : Prop := e = .returned v ∧ w = w'
end Go.Proofs.Ytngfcgegondmgaa
