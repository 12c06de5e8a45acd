/-
  No cell of these rows narrows 'for every input' (looked for: loops, veiled, ifaces, maps, wideKeys, modest, calm, conditions, laid).
  DERIVED. THE GIVEN ROWS OF THIS SEAT. 6 by the template 'for every input the law returns true; each argument reads behind the call as it read before'; 0 by the template 'total and deterministic' (their statements: YtbmdbjecjiolpaaTotals.lean).
  GIVEN WITH THE SEED: the statements are not yours to turn. If you find one false, say at which input.
  Laid BY PROGRAM, IN A SANDBOX (cutbox-rows.mjs): the forced cells as the released guide's own fill.sh prints them over the translation 3abc8e623383ee53… (all of the seat's roots in one cut). By AI agents, Wed Nov 11 2026. No macro, syntax, notation, axiom, sorry.
-/
import Derived.Test.YtbmdbjecjiolpaaChecked
import GoSem.Claim
import GoSem.ClaimJoined
import GoSem.ClaimMapViews
import Derived.JoinedTies
import Derived.KernelRfl
namespace Go.Proofs.Ytbmdbjecjiolpaa
/- THE CELL 'sum', in the pinned program and in every row, IS THE sha256 OF THE DUMP (.gsa) THAT YtbmdbjecjiolpaaProg.lean LOADS. Nothing in Lean hashes anything: it is a label: what it is worth is what the hold of that sum in a sandbox is worth. -/
noncomputable def Try.pinned : Pinned := { name := "ytbmdbjecjiolpaa", sum := "3abc8e623383ee538227f3c24d36b59c8ad67ca3c9abe570bce54e1031181038", checked := Try.checked }
namespace Rows
def none {H : Type} : Left H := { results := [], args := [] }

/-- 'dogwatchlaw03.AppoLargest': WHATEVER THE INPUT: true; the input reads as it did. -/
def appoLargestSpec : ChangeSpec := { name := "appoLargest", fn := fun _ => fun
  | [d1, d2] => { results := [.lit (.bool true)], args := [d1, d2] }
  | _ => none }
def appoLargestRow : OpenClaim := { program := "ytbmdbjecjiolpaa", sum := "3abc8e623383ee538227f3c24d36b59c8ad67ca3c9abe570bce54e1031181038", func := "dogwatch/dogwatchlaw03.AppoLargest", spec := "appoLargest", unfollowed := true, recurses := true, apart := false }
def AppoLargestSaid : Prop := appoLargestRow.holds Try.pinned (OpenSpec.ofChange appoLargestSpec)

/-- ITS FALSE NEIGHBOUR: 'it returns false'. Refute it at one input. -/
def appoLargestWrong : ChangeSpec := { name := "appoLargest", fn := fun _ => fun
  | [d1, d2] => { results := [.lit (.bool false)], args := [d1, d2] }
  | _ => none }
def AppoLargestWrongFalsely : Prop := appoLargestRow.holds Try.pinned (OpenSpec.ofChange appoLargestWrong)

/-- 'dogwatchlaw03.AppoNear': WHATEVER THE INPUT: true; the input reads as it did. -/
def appoNearSpec : ChangeSpec := { name := "appoNear", fn := fun _ => fun
  | [d1, d2] => { results := [.lit (.bool true)], args := [d1, d2] }
  | _ => none }
def appoNearRow : OpenClaim := { program := "ytbmdbjecjiolpaa", sum := "3abc8e623383ee538227f3c24d36b59c8ad67ca3c9abe570bce54e1031181038", func := "dogwatch/dogwatchlaw03.AppoNear", spec := "appoNear", unfollowed := true, recurses := true, apart := false }
def AppoNearSaid : Prop := appoNearRow.holds Try.pinned (OpenSpec.ofChange appoNearSpec)

/-- ITS FALSE NEIGHBOUR: 'it returns false'. Refute it at one input. -/
def appoNearWrong : ChangeSpec := { name := "appoNear", fn := fun _ => fun
  | [d1, d2] => { results := [.lit (.bool false)], args := [d1, d2] }
  | _ => none }
def AppoNearWrongFalsely : Prop := appoNearRow.holds Try.pinned (OpenSpec.ofChange appoNearWrong)

/-- 'dogwatchlaw03.AppoSeats': WHATEVER THE INPUT: true; the input reads as it did. -/
def appoSeatsSpec : ChangeSpec := { name := "appoSeats", fn := fun _ => fun
  | [d1, d2, d3] => { results := [.lit (.bool true)], args := [d1, d2, d3] }
  | _ => none }
def appoSeatsRow : OpenClaim := { program := "ytbmdbjecjiolpaa", sum := "3abc8e623383ee538227f3c24d36b59c8ad67ca3c9abe570bce54e1031181038", func := "dogwatch/dogwatchlaw03.AppoSeats", spec := "appoSeats", unfollowed := true, recurses := true, apart := false }
def AppoSeatsSaid : Prop := appoSeatsRow.holds Try.pinned (OpenSpec.ofChange appoSeatsSpec)

/-- ITS FALSE NEIGHBOUR: 'it returns false'. Refute it at one input. -/
def appoSeatsWrong : ChangeSpec := { name := "appoSeats", fn := fun _ => fun
  | [d1, d2, d3] => { results := [.lit (.bool false)], args := [d1, d2, d3] }
  | _ => none }
def AppoSeatsWrongFalsely : Prop := appoSeatsRow.holds Try.pinned (OpenSpec.ofChange appoSeatsWrong)

/-- 'dogwatchlaw03.AppoMore': WHATEVER THE INPUT: true; the input reads as it did. -/
def appoMoreSpec : ChangeSpec := { name := "appoMore", fn := fun _ => fun
  | [d1, d2] => { results := [.lit (.bool true)], args := [d1, d2] }
  | _ => none }
def appoMoreRow : OpenClaim := { program := "ytbmdbjecjiolpaa", sum := "3abc8e623383ee538227f3c24d36b59c8ad67ca3c9abe570bce54e1031181038", func := "dogwatch/dogwatchlaw03.AppoMore", spec := "appoMore", unfollowed := true, recurses := true, apart := false }
def AppoMoreSaid : Prop := appoMoreRow.holds Try.pinned (OpenSpec.ofChange appoMoreSpec)

/-- ITS FALSE NEIGHBOUR: 'it returns false'. Refute it at one input. -/
def appoMoreWrong : ChangeSpec := { name := "appoMore", fn := fun _ => fun
  | [d1, d2] => { results := [.lit (.bool false)], args := [d1, d2] }
  | _ => none }
def AppoMoreWrongFalsely : Prop := appoMoreRow.holds Try.pinned (OpenSpec.ofChange appoMoreWrong)

/-- 'dogwatchlaw03.AppoJust': WHATEVER THE INPUT: true; the input reads as it did. -/
def appoJustSpec : ChangeSpec := { name := "appoJust", fn := fun _ => fun
  | [d1, d2] => { results := [.lit (.bool true)], args := [d1, d2] }
  | _ => none }
def appoJustRow : OpenClaim := { program := "ytbmdbjecjiolpaa", sum := "3abc8e623383ee538227f3c24d36b59c8ad67ca3c9abe570bce54e1031181038", func := "dogwatch/dogwatchlaw03.AppoJust", spec := "appoJust", unfollowed := true, recurses := true, apart := false }
def AppoJustSaid : Prop := appoJustRow.holds Try.pinned (OpenSpec.ofChange appoJustSpec)

/-- ITS FALSE NEIGHBOUR: 'it returns false'. Refute it at one input. -/
def appoJustWrong : ChangeSpec := { name := "appoJust", fn := fun _ => fun
  | [d1, d2] => { results := [.lit (.bool false)], args := [d1, d2] }
  | _ => none }
def AppoJustWrongFalsely : Prop := appoJustRow.holds Try.pinned (OpenSpec.ofChange appoJustWrong)

/-- 'dogwatchlaw03.AppoLag': WHATEVER THE INPUT: true; the input reads as it did. -/
def appoLagSpec : ChangeSpec := { name := "appoLag", fn := fun _ => fun
  | [d1, d2] => { results := [.lit (.bool true)], args := [d1, d2] }
  | _ => none }
def appoLagRow : OpenClaim := { program := "ytbmdbjecjiolpaa", sum := "3abc8e623383ee538227f3c24d36b59c8ad67ca3c9abe570bce54e1031181038", func := "dogwatch/dogwatchlaw03.AppoLag", spec := "appoLag", unfollowed := true, recurses := true, apart := false }
def AppoLagSaid : Prop := appoLagRow.holds Try.pinned (OpenSpec.ofChange appoLagSpec)

/-- ITS FALSE NEIGHBOUR: 'it returns false'. Refute it at one input. -/
def appoLagWrong : ChangeSpec := { name := "appoLag", fn := fun _ => fun
  | [d1, d2] => { results := [.lit (.bool false)], args := [d1, d2] }
  | _ => none }
def AppoLagWrongFalsely : Prop := appoLagRow.holds Try.pinned (OpenSpec.ofChange appoLagWrong)

/- THE SECOND FORM. 'bulk': how many values and letters a reading holds, each counted each time it is reached (what is shared counts as often as it is met; a slice's spare places count too). A statement '..UptoSaid' is the law's where the arguments, and the package variables that the reading takes, are together of bulk at most 1048576: NARROWER than '..Said'. Prove '..Said' where nothing that the law and all that it calls make is longer than what came in: it says more and counts as full. Else prove '..UptoSaid'. A law counts once. -/
mutual
def uptoBulk {H : Type} : DataW H → Nat
  | .lit (.string bytes) => bytes.length + 1
  | .lit _ => 1
  | .nil => 1
  | .ptr d => uptoBulk d + 1
  | .slice elems spare => uptoBulkAll elems + uptoBulkAll spare + 1
  | .agg parts => uptoBulkAll parts + 1
  | .iface _ d => uptoBulk d + 1
  | .map entries => uptoBulkEntries entries + 1
  | .held _ => 1
def uptoBulkAll {H : Type} : List (DataW H) → Nat
  | [] => 0
  | d :: r => uptoBulk d + uptoBulkAll r
def uptoBulkEntries {H : Type} : List (Lit × DataW H) → Nat
  | [] => 0
  | x :: r => uptoBulkEntry x + uptoBulkEntries r
def uptoBulkEntry {H : Type} : Lit × DataW H → Nat
  | (.string bytes, d) => bytes.length + uptoBulk d + 1
  | (_, d) => uptoBulk d + 1
 end
def uptoSmall : (H : Type) → List (DataW H) → Bool := fun _ ds => decide (uptoBulkAll ds ≤ 1048576)
def OpenSpec.upto (s : _root_.Go.ChangeSpec) : _root_.Go.OpenSpec := { _root_.Go.OpenSpec.ofChange s with cond := some uptoSmall }

/-- 'dogwatchlaw03.AppoLargest', WHERE WHAT IT READS IS OF BULK AT MOST 1048576: true; the input reads as it did. -/
def appoLargestUptoRow : OpenClaim := { program := "ytbmdbjecjiolpaa", sum := "3abc8e623383ee538227f3c24d36b59c8ad67ca3c9abe570bce54e1031181038", func := "dogwatch/dogwatchlaw03.AppoLargest", spec := "appoLargest", unfollowed := true, recurses := true, apart := false, narrowed := true }
def AppoLargestUptoSaid : Prop := appoLargestUptoRow.holds Try.pinned (OpenSpec.upto appoLargestSpec)

/-- 'dogwatchlaw03.AppoNear', WHERE WHAT IT READS IS OF BULK AT MOST 1048576: true; the input reads as it did. -/
def appoNearUptoRow : OpenClaim := { program := "ytbmdbjecjiolpaa", sum := "3abc8e623383ee538227f3c24d36b59c8ad67ca3c9abe570bce54e1031181038", func := "dogwatch/dogwatchlaw03.AppoNear", spec := "appoNear", unfollowed := true, recurses := true, apart := false, narrowed := true }
def AppoNearUptoSaid : Prop := appoNearUptoRow.holds Try.pinned (OpenSpec.upto appoNearSpec)

/-- 'dogwatchlaw03.AppoSeats', WHERE WHAT IT READS IS OF BULK AT MOST 1048576: true; the input reads as it did. -/
def appoSeatsUptoRow : OpenClaim := { program := "ytbmdbjecjiolpaa", sum := "3abc8e623383ee538227f3c24d36b59c8ad67ca3c9abe570bce54e1031181038", func := "dogwatch/dogwatchlaw03.AppoSeats", spec := "appoSeats", unfollowed := true, recurses := true, apart := false, narrowed := true }
def AppoSeatsUptoSaid : Prop := appoSeatsUptoRow.holds Try.pinned (OpenSpec.upto appoSeatsSpec)

/-- 'dogwatchlaw03.AppoMore', WHERE WHAT IT READS IS OF BULK AT MOST 1048576: true; the input reads as it did. -/
def appoMoreUptoRow : OpenClaim := { program := "ytbmdbjecjiolpaa", sum := "3abc8e623383ee538227f3c24d36b59c8ad67ca3c9abe570bce54e1031181038", func := "dogwatch/dogwatchlaw03.AppoMore", spec := "appoMore", unfollowed := true, recurses := true, apart := false, narrowed := true }
def AppoMoreUptoSaid : Prop := appoMoreUptoRow.holds Try.pinned (OpenSpec.upto appoMoreSpec)

/-- 'dogwatchlaw03.AppoJust', WHERE WHAT IT READS IS OF BULK AT MOST 1048576: true; the input reads as it did. -/
def appoJustUptoRow : OpenClaim := { program := "ytbmdbjecjiolpaa", sum := "3abc8e623383ee538227f3c24d36b59c8ad67ca3c9abe570bce54e1031181038", func := "dogwatch/dogwatchlaw03.AppoJust", spec := "appoJust", unfollowed := true, recurses := true, apart := false, narrowed := true }
def AppoJustUptoSaid : Prop := appoJustUptoRow.holds Try.pinned (OpenSpec.upto appoJustSpec)

/-- 'dogwatchlaw03.AppoLag', WHERE WHAT IT READS IS OF BULK AT MOST 1048576: true; the input reads as it did. -/
def appoLagUptoRow : OpenClaim := { program := "ytbmdbjecjiolpaa", sum := "3abc8e623383ee538227f3c24d36b59c8ad67ca3c9abe570bce54e1031181038", func := "dogwatch/dogwatchlaw03.AppoLag", spec := "appoLag", unfollowed := true, recurses := true, apart := false, narrowed := true }
def AppoLagUptoSaid : Prop := appoLagUptoRow.holds Try.pinned (OpenSpec.upto appoLagSpec)

end Rows
end Go.Proofs.Ytbmdbjecjiolpaa
