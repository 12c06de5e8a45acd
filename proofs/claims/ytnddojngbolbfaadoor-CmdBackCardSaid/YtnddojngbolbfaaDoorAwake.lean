/-
  The page's example, run: New, Wrap, Text, Code, Has, Links give what the page says; and (*Fault).Error.
  Conditions: start-up's two variables are as laid.
-/
import Derived.Test.YtnddojngbolbfaaDoorTextAll
namespace Go.Proofs.YtnddojngbolbfaaDoor
open Go.RowKit Go.Extern.Stop Go.Stop Go.Extern

/-- Start-up's two variables. -/
structure Env (w : World) : Prop where
  e : EType w
  t : Tab w
  z : 2 < w.heap.size

theorem Env.later {w w' : World} (h : Env w) (hb : Below w.heap.size w w') : Env w' := ⟨h.e.later hb, h.t.kept h.z hb, Nat.lt_of_lt_of_le h.z hb.size⟩

theorem Chain.later {w w' : World} {v : Value} {is : List Item} (c : Chain w.heap.size w v is) (hb : Below w.heap.size w w') : Chain w'.heap.size w' v is := (c.kept (Nat.le_refl _) hb).up hb.size

def cmdI (b : Nat) : Item := ⟨b, 3, ⟨#[99, 109, 100]⟩, 2⟩
def scriptI (b : Nat) : Item := ⟨b, 3, ⟨#[115, 99, 114, 105, 112, 116]⟩, 7⟩

theorem example_text (b c : Nat) : FtextOf [scriptI b, cmdI c] = [115, 99, 114, 105, 112, 116, 32, 55, 32, 35, 51, 58, 32, 99, 109, 100, 32, 50, 32, 35, 51] := by
  have e7 : Lib.itoa 7 = [55] := by rw [Lib.itoa, if_neg (by omega), Lib.decDigits_one (by decide)]; rfl
  have e3 : Lib.itoa 3 = [51] := by rw [Lib.itoa, if_neg (by omega), Lib.decDigits_one (by decide)]; rfl
  have e2 : Lib.itoa 2 = [50] := by rw [Lib.itoa, if_neg (by omega), Lib.decDigits_one (by decide)]; rfl
  simp [FtextOf, linkText, scriptI, cmdI, Lib.join, List.intercalate, e7, e3, e2]
end Go.Proofs.YtnddojngbolbfaaDoor
