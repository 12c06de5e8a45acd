/-
  What bytes are, in numbers: the fields read one behind the other.
  Conditions: none.
-/
import Derived.Test.YtnddojngbolbfaaDoorCmdMath
set_option linter.unusedVariables false
namespace Go.Proofs.YtnddojngbolbfaaDoor

/-- Behind i fields: the command so far, the bytes that are left, the first error. -/
def rdT (fs : List Nat) (c : Cmd8) (bs : List Nat) : Nat → Cmd8 × List Nat × Int
  | 0 => (c, bs, 0)
  | i + 1 =>
    (updC (rdT fs c bs i).1 (atF fs i) (numT (rdT fs c bs i).2.1 (rdT fs c bs i).2.2 2147483647).1, (numT (rdT fs c bs i).2.1 (rdT fs c bs i).2.2 2147483647).2.1, (numT (rdT fs c bs i).2.1 (rdT fs c bs i).2.2 2147483647).2.2)
def rdE (fs : List Nat) (c : Cmd8) (bs : List Nat) (i : Nat) : Int := (rdT fs c bs (i + 1)).2.2

theorem numT_le (bs : List Nat) (e : Int) (most : Nat) : (numT bs e most).1 ≤ most := by
  unfold numT
  split
  · exact Nat.zero_le _
  · split
    · exact Nat.zero_le _
    · split
      · exact Nat.zero_le _
      · show (lead 0 0 bs).1 ≤ most; omega
theorem numT_bad {bs : List Nat} {e : Int} (h : e ≠ 0) (most : Nat) : numT bs e most = (0, bs, e) := if_pos h
/-- What bytes are (P11.2). -/
def decodeT (bs : List Nat) : Cmd8 × List LKey :=
  match bs with
  | [] => (zeroC, [(3, cmdS, 0)])
  | x :: r =>
    match fieldsT (x : Int) with
    | none => (zeroC, [(3, cmdS, (x : Int))])
    | some fs =>
      if firstK (rdE fs (opC x) r) fs.length ≠ [] then (zeroC, (3, cmdS, (x : Int)) :: firstK (rdE fs (opC x) r) fs.length)
      else if 0 < (rdT fs (opC x) r fs.length).2.1.length then (zeroC, [(3, cmdS, (x : Int)), (4, fieldS, (fs.length : Int))])
      else ((rdT fs (opC x) r fs.length).1, [])

theorem rdT_op {fs : List Nat} (hf : ∀ j ∈ fs, 0 < j ∧ j < 8) (c : Cmd8) (bs : List Nat) : ∀ i, i ≤ fs.length → (rdT fs c bs i).1 0 = c 0
  | 0, _ => rfl
  | i + 1, h => by
    have hm : atF fs i ∈ fs := by rw [atF_eq (List.getElem?_eq_getElem (by omega : i < fs.length))]; exact List.getElem_mem _
    have := (hf _ hm).1
    show updC _ _ _ 0 = c 0
    unfold updC
    rw [if_neg (by omega)]
    exact rdT_op hf c bs i (by omega)
end Go.Proofs.YtnddojngbolbfaaDoor
