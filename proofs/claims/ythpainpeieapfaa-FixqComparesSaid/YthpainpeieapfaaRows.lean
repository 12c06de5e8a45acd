/-
  No cell of these rows narrows 'for every input' (looked for: loops, veiled, ifaces, maps, wideKeys, modest, calm, conditions, laid).
  DERIVED. THE GIVEN ROWS OF THIS SEAT. 6 by the template 'for every input the law returns true; each argument reads behind the call as it read before'; 0 by the template 'total and deterministic' (their statements: YthpainpeieapfaaTotals.lean).
  GIVEN WITH THE SEED: the statements are not yours to turn. If you find one false, say at which input.
  Laid BY PROGRAM, IN A SANDBOX (cutbox-rows.mjs): the forced cells as the released guide's own fill.sh prints them over the translation 20aa91d65e73df5f… (all of the seat's roots in one cut). By AI agents, Wed Nov 11 2026. No macro, syntax, notation, axiom, sorry.
-/
import Derived.Test.YthpainpeieapfaaChecked
import GoSem.Claim
import GoSem.ClaimJoined
import GoSem.ClaimMapViews
import Derived.JoinedTies
import Derived.KernelRfl
namespace Go.Proofs.Ythpainpeieapfaa
/- THE CELL 'sum', in the pinned program and in every row, IS THE sha256 OF THE DUMP (.gsa) THAT YthpainpeieapfaaProg.lean LOADS. Nothing in Lean hashes anything: it is a label: what it is worth is what the hold of that sum in a sandbox is worth. -/
noncomputable def Try.pinned : Pinned := { name := "ythpainpeieapfaa", sum := "20aa91d65e73df5f20a55257109b13182d3bbbbb035d7e22acfb52c170e5dfc3", checked := Try.checked }
namespace Rows
def none {H : Type} : Left H := { results := [], args := [] }

/-- 'dogwatchlaw02.FixqAdds': WHATEVER THE INPUT: true; the input reads as it did. -/
def fixqAddsSpec : ChangeSpec := { name := "fixqAdds", fn := fun _ => fun
  | [d1, d2] => { results := [.lit (.bool true)], args := [d1, d2] }
  | _ => none }
def fixqAddsRow : OpenClaim := { program := "ythpainpeieapfaa", sum := "20aa91d65e73df5f20a55257109b13182d3bbbbb035d7e22acfb52c170e5dfc3", func := "dogwatch/dogwatchlaw02.FixqAdds", spec := "fixqAdds", named := ["math/bits.divideError", "math/bits.overflowError"], apart := false }
def FixqAddsSaid : Prop := fixqAddsRow.holds Try.pinned (OpenSpec.ofChange fixqAddsSpec)

/-- ITS FALSE NEIGHBOUR: 'it returns false'. Refute it at one input. -/
def fixqAddsWrong : ChangeSpec := { name := "fixqAdds", fn := fun _ => fun
  | [d1, d2] => { results := [.lit (.bool false)], args := [d1, d2] }
  | _ => none }
def FixqAddsWrongFalsely : Prop := fixqAddsRow.holds Try.pinned (OpenSpec.ofChange fixqAddsWrong)

/-- 'dogwatchlaw02.FixqTimes': WHATEVER THE INPUT: true; the input reads as it did. -/
def fixqTimesSpec : ChangeSpec := { name := "fixqTimes", fn := fun _ => fun
  | [d1, d2] => { results := [.lit (.bool true)], args := [d1, d2] }
  | _ => none }
def fixqTimesRow : OpenClaim := { program := "ythpainpeieapfaa", sum := "20aa91d65e73df5f20a55257109b13182d3bbbbb035d7e22acfb52c170e5dfc3", func := "dogwatch/dogwatchlaw02.FixqTimes", spec := "fixqTimes", named := ["math/bits.divideError", "math/bits.overflowError"], apart := false }
def FixqTimesSaid : Prop := fixqTimesRow.holds Try.pinned (OpenSpec.ofChange fixqTimesSpec)

/-- ITS FALSE NEIGHBOUR: 'it returns false'. Refute it at one input. -/
def fixqTimesWrong : ChangeSpec := { name := "fixqTimes", fn := fun _ => fun
  | [d1, d2] => { results := [.lit (.bool false)], args := [d1, d2] }
  | _ => none }
def FixqTimesWrongFalsely : Prop := fixqTimesRow.holds Try.pinned (OpenSpec.ofChange fixqTimesWrong)

/-- 'dogwatchlaw02.FixqDivides': WHATEVER THE INPUT: true; the input reads as it did. -/
def fixqDividesSpec : ChangeSpec := { name := "fixqDivides", fn := fun _ => fun
  | [d1, d2, d3] => { results := [.lit (.bool true)], args := [d1, d2, d3] }
  | _ => none }
def fixqDividesRow : OpenClaim := { program := "ythpainpeieapfaa", sum := "20aa91d65e73df5f20a55257109b13182d3bbbbb035d7e22acfb52c170e5dfc3", func := "dogwatch/dogwatchlaw02.FixqDivides", spec := "fixqDivides", named := ["math/bits.divideError", "math/bits.overflowError"], apart := false }
def FixqDividesSaid : Prop := fixqDividesRow.holds Try.pinned (OpenSpec.ofChange fixqDividesSpec)

/-- ITS FALSE NEIGHBOUR: 'it returns false'. Refute it at one input. -/
def fixqDividesWrong : ChangeSpec := { name := "fixqDivides", fn := fun _ => fun
  | [d1, d2, d3] => { results := [.lit (.bool false)], args := [d1, d2, d3] }
  | _ => none }
def FixqDividesWrongFalsely : Prop := fixqDividesRow.holds Try.pinned (OpenSpec.ofChange fixqDividesWrong)

/-- 'dogwatchlaw02.FixqWhole': WHATEVER THE INPUT: true; the input reads as it did. -/
def fixqWholeSpec : ChangeSpec := { name := "fixqWhole", fn := fun _ => fun
  | [d1, d2, d3] => { results := [.lit (.bool true)], args := [d1, d2, d3] }
  | _ => none }
def fixqWholeRow : OpenClaim := { program := "ythpainpeieapfaa", sum := "20aa91d65e73df5f20a55257109b13182d3bbbbb035d7e22acfb52c170e5dfc3", func := "dogwatch/dogwatchlaw02.FixqWhole", spec := "fixqWhole", named := ["math/bits.divideError", "math/bits.overflowError"], apart := false }
def FixqWholeSaid : Prop := fixqWholeRow.holds Try.pinned (OpenSpec.ofChange fixqWholeSpec)

/-- ITS FALSE NEIGHBOUR: 'it returns false'. Refute it at one input. -/
def fixqWholeWrong : ChangeSpec := { name := "fixqWhole", fn := fun _ => fun
  | [d1, d2, d3] => { results := [.lit (.bool false)], args := [d1, d2, d3] }
  | _ => none }
def FixqWholeWrongFalsely : Prop := fixqWholeRow.holds Try.pinned (OpenSpec.ofChange fixqWholeWrong)

/-- 'dogwatchlaw02.FixqCompares': WHATEVER THE INPUT: true; the input reads as it did. -/
def fixqComparesSpec : ChangeSpec := { name := "fixqCompares", fn := fun _ => fun
  | [d1, d2, d3, d4, d5, d6] => { results := [.lit (.bool true)], args := [d1, d2, d3, d4, d5, d6] }
  | _ => none }
def fixqComparesRow : OpenClaim := { program := "ythpainpeieapfaa", sum := "20aa91d65e73df5f20a55257109b13182d3bbbbb035d7e22acfb52c170e5dfc3", func := "dogwatch/dogwatchlaw02.FixqCompares", spec := "fixqCompares", named := ["math/bits.divideError", "math/bits.overflowError"], apart := false }
def FixqComparesSaid : Prop := fixqComparesRow.holds Try.pinned (OpenSpec.ofChange fixqComparesSpec)

/-- ITS FALSE NEIGHBOUR: 'it returns false'. Refute it at one input. -/
def fixqComparesWrong : ChangeSpec := { name := "fixqCompares", fn := fun _ => fun
  | [d1, d2, d3, d4, d5, d6] => { results := [.lit (.bool false)], args := [d1, d2, d3, d4, d5, d6] }
  | _ => none }
def FixqComparesWrongFalsely : Prop := fixqComparesRow.holds Try.pinned (OpenSpec.ofChange fixqComparesWrong)

/-- 'dogwatchlaw02.FixqReduces': WHATEVER THE INPUT: true; the input reads as it did. -/
def fixqReducesSpec : ChangeSpec := { name := "fixqReduces", fn := fun _ => fun
  | [d1, d2] => { results := [.lit (.bool true)], args := [d1, d2] }
  | _ => none }
def fixqReducesRow : OpenClaim := { program := "ythpainpeieapfaa", sum := "20aa91d65e73df5f20a55257109b13182d3bbbbb035d7e22acfb52c170e5dfc3", func := "dogwatch/dogwatchlaw02.FixqReduces", spec := "fixqReduces", recurses := true, named := ["math/bits.divideError", "math/bits.overflowError"], apart := false }
def FixqReducesSaid : Prop := fixqReducesRow.holds Try.pinned (OpenSpec.ofChange fixqReducesSpec)

/-- ITS FALSE NEIGHBOUR: 'it returns false'. Refute it at one input. -/
def fixqReducesWrong : ChangeSpec := { name := "fixqReduces", fn := fun _ => fun
  | [d1, d2] => { results := [.lit (.bool false)], args := [d1, d2] }
  | _ => none }
def FixqReducesWrongFalsely : Prop := fixqReducesRow.holds Try.pinned (OpenSpec.ofChange fixqReducesWrong)

/- THE SECOND FORM. 'bulk': how many values and letters a reading holds, each counted each time it is reached (what is shared counts as often as it is met; a slice's spare places count too). A statement '..UptoSaid' is the law's where the arguments, and the package variables that the reading takes, are together of bulk at most 1048576: NARROWER than '..Said'. Prove '..Said' where nothing that the law and all that it calls make is longer than what came in: it says more and counts as full. Else prove '..UptoSaid'. A law counts once. -/
mutual
def uptoBulk {H : Type} : DataW H → Nat
  | .lit (.string bytes) => bytes.length + 1
  | .lit _ => 1
  | .nil => 1
  | .ptr d => uptoBulk d + 1
  | .slice elems spare => uptoBulkAll elems + uptoBulkAll spare + 1
  | .agg parts => uptoBulkAll parts + 1
  | .iface _ d => uptoBulk d + 1
  | .map entries => uptoBulkEntries entries + 1
  | .held _ => 1
def uptoBulkAll {H : Type} : List (DataW H) → Nat
  | [] => 0
  | d :: r => uptoBulk d + uptoBulkAll r
def uptoBulkEntries {H : Type} : List (Lit × DataW H) → Nat
  | [] => 0
  | x :: r => uptoBulkEntry x + uptoBulkEntries r
def uptoBulkEntry {H : Type} : Lit × DataW H → Nat
  | (.string bytes, d) => bytes.length + uptoBulk d + 1
  | (_, d) => uptoBulk d + 1
 end
def uptoSmall : (H : Type) → List (DataW H) → Bool := fun _ ds => decide (uptoBulkAll ds ≤ 1048576)
def OpenSpec.upto (s : _root_.Go.ChangeSpec) : _root_.Go.OpenSpec := { _root_.Go.OpenSpec.ofChange s with cond := some uptoSmall }

/-- 'dogwatchlaw02.FixqAdds', WHERE WHAT IT READS IS OF BULK AT MOST 1048576: true; the input reads as it did. -/
def fixqAddsUptoRow : OpenClaim := { program := "ythpainpeieapfaa", sum := "20aa91d65e73df5f20a55257109b13182d3bbbbb035d7e22acfb52c170e5dfc3", func := "dogwatch/dogwatchlaw02.FixqAdds", spec := "fixqAdds", named := ["math/bits.divideError", "math/bits.overflowError"], apart := false, narrowed := true }
def FixqAddsUptoSaid : Prop := fixqAddsUptoRow.holds Try.pinned (OpenSpec.upto fixqAddsSpec)

/-- 'dogwatchlaw02.FixqTimes', WHERE WHAT IT READS IS OF BULK AT MOST 1048576: true; the input reads as it did. -/
def fixqTimesUptoRow : OpenClaim := { program := "ythpainpeieapfaa", sum := "20aa91d65e73df5f20a55257109b13182d3bbbbb035d7e22acfb52c170e5dfc3", func := "dogwatch/dogwatchlaw02.FixqTimes", spec := "fixqTimes", named := ["math/bits.divideError", "math/bits.overflowError"], apart := false, narrowed := true }
def FixqTimesUptoSaid : Prop := fixqTimesUptoRow.holds Try.pinned (OpenSpec.upto fixqTimesSpec)

/-- 'dogwatchlaw02.FixqDivides', WHERE WHAT IT READS IS OF BULK AT MOST 1048576: true; the input reads as it did. -/
def fixqDividesUptoRow : OpenClaim := { program := "ythpainpeieapfaa", sum := "20aa91d65e73df5f20a55257109b13182d3bbbbb035d7e22acfb52c170e5dfc3", func := "dogwatch/dogwatchlaw02.FixqDivides", spec := "fixqDivides", named := ["math/bits.divideError", "math/bits.overflowError"], apart := false, narrowed := true }
def FixqDividesUptoSaid : Prop := fixqDividesUptoRow.holds Try.pinned (OpenSpec.upto fixqDividesSpec)

/-- 'dogwatchlaw02.FixqWhole', WHERE WHAT IT READS IS OF BULK AT MOST 1048576: true; the input reads as it did. -/
def fixqWholeUptoRow : OpenClaim := { program := "ythpainpeieapfaa", sum := "20aa91d65e73df5f20a55257109b13182d3bbbbb035d7e22acfb52c170e5dfc3", func := "dogwatch/dogwatchlaw02.FixqWhole", spec := "fixqWhole", named := ["math/bits.divideError", "math/bits.overflowError"], apart := false, narrowed := true }
def FixqWholeUptoSaid : Prop := fixqWholeUptoRow.holds Try.pinned (OpenSpec.upto fixqWholeSpec)

/-- 'dogwatchlaw02.FixqCompares', WHERE WHAT IT READS IS OF BULK AT MOST 1048576: true; the input reads as it did. -/
def fixqComparesUptoRow : OpenClaim := { program := "ythpainpeieapfaa", sum := "20aa91d65e73df5f20a55257109b13182d3bbbbb035d7e22acfb52c170e5dfc3", func := "dogwatch/dogwatchlaw02.FixqCompares", spec := "fixqCompares", named := ["math/bits.divideError", "math/bits.overflowError"], apart := false, narrowed := true }
def FixqComparesUptoSaid : Prop := fixqComparesUptoRow.holds Try.pinned (OpenSpec.upto fixqComparesSpec)

/-- 'dogwatchlaw02.FixqReduces', WHERE WHAT IT READS IS OF BULK AT MOST 1048576: true; the input reads as it did. -/
def fixqReducesUptoRow : OpenClaim := { program := "ythpainpeieapfaa", sum := "20aa91d65e73df5f20a55257109b13182d3bbbbb035d7e22acfb52c170e5dfc3", func := "dogwatch/dogwatchlaw02.FixqReduces", spec := "fixqReduces", recurses := true, named := ["math/bits.divideError", "math/bits.overflowError"], apart := false, narrowed := true }
def FixqReducesUptoSaid : Prop := fixqReducesUptoRow.holds Try.pinned (OpenSpec.upto fixqReducesSpec)

end Rows
end Go.Proofs.Ythpainpeieapfaa
