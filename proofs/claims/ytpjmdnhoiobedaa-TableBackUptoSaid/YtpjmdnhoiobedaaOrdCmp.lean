/-
  cmp.Compare, cmp.Or, the program's compare and Ahead, the document's Ahead.
  Conditions: none.
-/
import Derived.Test.YtpjmdnhoiobedaaRets
import Derived.Test.YtpjmdnhoiobedaaIndex
import Derived.Shelf.SlSortCmp.QuietGrown
set_option linter.unusedVariables false
namespace Go.Proofs.Ytpjmdnhoiobedaa
open Go.RowKit Go.Sort

def cmpI (p q : Int) : Int := if p < q then -1 else if q < p then 1 else 0

theorem isNaN_any (a : Int) (w : World) : Calls Try.prog 77 #[.int .i64 a] w (Ret (.bool false) w) := by
  have h : (a != a) = false := by simp
  go_enter Try.func77, Try.ntmps77
  go_wp2
  go_ret
  exact ⟨rfl, rfl⟩

theorem compareInt_any (p q : Int) (w : World) : Calls Try.prog 56 #[.int .i64 p, .int .i64 q] w (Ret (.int .i64 (cmpI p q)) w) := by
  by_cases h1 : p < q
  · have e : Hid (cmpI p q = -1) := by show _ = _; unfold cmpI; rw [if_pos h1]
    go_enter Try.func56, Try.ntmps56
    go_wp2_with (go_at_call 77; refine (isNaN_any _ _).mono ?_; rintro e w' ⟨rfl, rfl⟩)
    go_ret
    exact ⟨ret_int e.out.symm, rfl⟩
  · have h1' : q ≤ p := by omega
    by_cases h2 : q < p
    · have e : Hid (cmpI p q = 1) := by show _ = _; unfold cmpI; rw [if_neg h1, if_pos h2]
      clear h1
      go_enter Try.func56, Try.ntmps56
      go_wp2_with (go_at_call 77; refine (isNaN_any _ _).mono ?_; rintro e w' ⟨rfl, rfl⟩)
      go_ret
      exact ⟨ret_int e.out.symm, rfl⟩
    · have h2' : p ≤ q := by omega
      have e : Hid (cmpI p q = 0) := by show _ = _; unfold cmpI; rw [if_neg h1, if_neg h2]
      clear h1 h2
      go_enter Try.func56, Try.ntmps56
      go_wp2_with (go_at_call 77; refine (isNaN_any _ _).mono ?_; rintro e w' ⟨rfl, rfl⟩)
      go_ret
      exact ⟨ret_int e.out.symm, rfl⟩

/-- compare's answer, all that was left as it was. -/
theorem below_growN {B : Nat} {a W : World} (h : Go.RowKit.Below B a W) (hB : B ≤ W.heap.size) (n : Nat) (os : Array Obj) : Go.RowKit.Below B a (grow (W.drewN n) os) := by
  refine h.trans ⟨rfl, rfl, rfl, ?_, fun k hk => ?_⟩
  · show W.heap.size ≤ (W.heap ++ os).size
    simp
  · show (W.heap ++ os)[k]? = _
    rw [Array.getElem?_append_left (by omega)]
end Go.Proofs.Ytpjmdnhoiobedaa
