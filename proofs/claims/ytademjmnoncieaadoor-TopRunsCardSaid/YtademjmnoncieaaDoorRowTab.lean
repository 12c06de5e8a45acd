/-
  From the rows' condition (the listed package-level variable reads as listed) to what the walks need; the door's own heap meets it.
  Conditions: none beyond those that each statement lists.
-/
import Derived.Test.YtademjmnoncieaaDoorRows
import Derived.Test.YtademjmnoncieaaDoorNextTick
import Derived.Test.YtademjmnoncieaaDoorRowInts
import Derived.ProofKit
import Derived.LaidMore
import Derived.Lib.LaidTab
import Derived.LaidHandle
import Derived.OpenShut
import Derived.Stop.Joined
import Derived.Carry
set_option linter.unusedVariables false
namespace Go.Proofs.YtademjmnoncieaaDoor
open Go.ChangeShapes Go.WideShapes Go.RowKit

/-- The listed variable. -/
def laidAll : List (String × DataW Unit) := [("math/bits.deBruijn64tab", Rows.laid_math_bits_deBruijn64tab)]

def tabInts : List Int := Lib.deBruijn64tab.map (fun n : Nat => (n : Int))
theorem tab_data {H : Type} : (Rows.laid_math_bits_deBruijn64tab : DataW H) = Lib.tabData .u8 tabInts := rfl
theorem Tryd.tabAt : Tryd.prog.globalNamed "math/bits.deBruijn64tab" = some 0 := by kernel_rfl
theorem Tryd.tabType : (Tryd.prog.globals[0]?).map (·.type) = some 60 := by kernel_rfl
theorem Tryd.cellsU8 : Tryd.prog.cellsOf 5 = 1 := by kernel_rfl
theorem Tryd.cellsTab : Tryd.prog.cellsOf 60 = 64 := by kernel_rfl

theorem tab_of_laid {W : World} (h : laidMetH Tryd.prog laidAll W) : Tab W := by
  have h' : laidMet Tryd.prog [("math/bits.deBruijn64tab", Rows.laid_math_bits_deBruijn64tab)] W := h
  rw [tab_data] at h'
  have hT := Lib.tabIs_of_head Tryd.tabAt Tryd.tabType Tryd.underlying60 Tryd.underlying5 Tryd.cellsU8 Tryd.cellsTab h'
  have hc : ∀ j, j < Lib.deBruijn64tab.length → W.cell? ⟨0, j, none⟩ = some (.int .u8 (Lib.deBruijn64tab.getD j 0)) := by
    intro j hj
    have := Lib.TabIs.cell hT Tryd.tabAt j (by unfold tabInts; rw [List.length_map]; exact hj)
    rw [this]
    unfold tabInts
    rw [List.getD_eq_getElem?_getD, List.getD_eq_getElem?_getD, List.getElem?_map, List.getElem?_eq_getElem hj]
    rfl
  exact ⟨hc, cell_lt (hc 0 (by decide))⟩

/-- The door's own heap meets the condition. -/
theorem door_met (os : Os) (args : Array Value) : laidMetH Tryd.prog laidAll ((World.doorLaid Tryd.prog 14 os).forCall (fun _ _ => 0) ⟨#[], args, []⟩).memory :=
  laidMetH_of_parts3 (fuel := 8) (laidMet_of_run' 8 (by kernel_rfl) (by kernel_rfl)) (by kernel_rfl) (by kernel_rfl)

theorem nat_of_u64 {n : Int} (h : (Lit.int .u64 n).wf = true) : ∃ m : Nat, n = (m : Int) ∧ m < 18446744073709551616 := by
  have e1 : IntKind.u64.min = 0 := by decide +kernel
  have e2 : IntKind.u64.max = 18446744073709551615 := by decide +kernel
  simp [Lit.wf] at h
  exact ⟨n.toNat, by omega, by omega⟩
end Go.Proofs.YtademjmnoncieaaDoor
