/-
  Numbers of 128 bits: Sum and Twice, as numbers.
  Conditions: each half is below 2^64.
-/
import Derived.Test.YtngfcgegondmgaaOrdCmp
import Derived.Test.YtngfcgegondmgaaShelf
import Derived.WalkKit
import Derived.WalkLawsBesides
import Derived.Below
import Derived.Lib.Hide
import Derived.Handy
import Derived.ProofKit
import Derived.OpenShut
set_option linter.unusedVariables false
namespace Go.Proofs.Ytngfcgegondmgaa
open Go.RowKit

theorem heap_setCell_at (w : World) (b o : Nat) (cs : Array Value) (T : TypeId) (fr : Nat × Nat) (x : Value) (h : w.heap[b]? = some (.cells cs T fr)) : (w.setCell ⟨b, o, none⟩ x).heap[b]? = some (.cells (cs.setIfInBounds o x) T fr) := by
  have hlt := (Array.getElem?_eq_some_iff.1 h).1
  have h' : w.heap[b] = .cells cs T fr := by simpa [Array.getElem?_eq_getElem hlt] using h
  show (w.heap.modify b _)[b]? = _
  rw [Array.getElem?_eq_getElem (by simpa using hlt), Array.getElem_modify_self, h']
  rfl

/-- Both halves, written. -/
def setWide (w : World) (b : Nat) (h l : Int) : World := (w.setCell ⟨b, 0, none⟩ (.int .u64 h)).setCell ⟨b, 1, none⟩ (.int .u64 l)

theorem setWide_below {w w' : World} {B b : Nat} (k : Below B w w') (hb : B ≤ b) (h' l' : Int) : Below B w (setWide w' b h' l') := (k.setCell hb _).setCell hb _
theorem setWide_size (w : World) (b : Nat) (h l : Int) : (setWide w b h l).heap.size = w.heap.size := by simp [setWide]

theorem addHi {h1 l1 h2 l2 : Nat} (hl : l1 + l2 < 18446744073709551616) : (h1 + h2 + (l1 + l2) / 18446744073709551616) % 18446744073709551616 = (h1 + h2) % 18446744073709551616 := by
  rw [Nat.div_eq_of_lt hl, Nat.add_zero]

/-- Twice a number, and a bit. -/
theorem or_bit (x b : Nat) (hb : b < 2) : bits BinOp.or IntKind.u64 (IntKind.u64.wrap ((x : Int) * 2)) (b : Int) = (((2 * x + b) % 18446744073709551616 : Nat) : Int) := by
  have e1 : IntKind.u64.wrap ((x : Int) * 2) = ((2 ^ 1 * (x % 9223372036854775808) : Nat) : Int) := by rw [IntKind.wrap_u64]; omega
  rw [e1, bits_or_u64_nat _ _ (by omega) (by omega), ← Nat.two_pow_add_eq_or_of_lt (i := 1) (by omega)]
  omega

/-- A number of 128 bits, by its halves. -/
def IsWide (n h l : Nat) : Prop := h < 18446744073709551616 ∧ l < 18446744073709551616 ∧ h * 18446744073709551616 + l = n
end Go.Proofs.Ytngfcgegondmgaa
