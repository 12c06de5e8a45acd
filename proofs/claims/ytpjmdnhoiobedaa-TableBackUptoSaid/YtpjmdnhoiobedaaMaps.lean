/-
  Maps of the call's own: counts, and marks.
  Conditions: none.
-/
import Derived.Test.YtpjmdnhoiobedaaTwiceMath
import Derived.Maps.Own
import Derived.Maps.OwnOps
import Derived.Maps.OwnSet
import Derived.Maps.Views
set_option linter.unusedVariables false
namespace Go.Proofs.Ytpjmdnhoiobedaa
open Go.RowKit Go.Maps

theorem keyedInt : Keyed Try.prog 3 := int_keyed Try.underlying3
theorem zeroInt (w : World) : (zeroValue 3).run Try.prog w = .ok (.int .i64 0) w := by kernel_rfl
theorem key_int (q : Int) (h0 : -9223372036854775808 ≤ q) (h1 : q ≤ 9223372036854775807) : keyOf Try.prog 3 (.int .i64 q) = some (.int .i64 q) := keyOf_int_mk Try.underlying3 (WalkArith.wf_i64 ⟨h0, h1⟩)
theorem lit_ne {a b : Int} (h : a ≠ b) : (Lit.int .i64 a) ≠ (Lit.int .i64 b) := by intro e; injection e with _ e; exact h e
theorem keyLit_int (q : Int) : WideAt.IsKeyLit (.int .i64 q) := by first | exact trivial | simp [WideAt.IsKeyLit] | exact ⟨_, _, rfl⟩
theorem own_keepM {w w' : World} {R : Value → Option (DataW Unit × List MemPlace)} {b n : Nat} {D : DataW Unit} (h : w.ownsMap Try.prog 3 R b n D) (e : w'.heap[b]? = w.heap[b]?) : w'.ownsMap Try.prog 3 R b n D := by
  obtain ⟨es, clock, hb, r⟩ := h
  exact ⟨es, clock, e.trans hb, r⟩
/-- Block mb is a map of at most cnt entries that has f of every number. -/
def GotAt (w : World) (mb cnt : Nat) (f : Int → Nat) (D : DataW Unit) : Prop :=
  w.ownsMap Try.prog 3 (plainElem Try.prog 3) mb cnt D ∧ ∀ q : Int, D.atKey (.int .i64 q) (.lit (.int .i64 0)) = .lit (.int .i64 (f q))
theorem GotAt.keep {w w' : World} {mb cnt : Nat} {f : Int → Nat} {D : DataW Unit} (h : GotAt w mb cnt f D) (e : w'.heap[mb]? = w.heap[mb]?) : GotAt w' mb cnt f D := ⟨own_keepM h.1 e, h.2⟩
theorem got_new (w : World) : GotAt (w.alloc (.map #[] 0)) w.heap.size 0 (fun _ => 0) (.map []) := ⟨World.ownsMap_made w _ _ _, fun q => rfl⟩
theorem GotAt.look {w : World} {mb cnt : Nat} {f : Int → Nat} {D : DataW Unit} (h : GotAt w mb cnt f D) (q : Int) (h0 : 0 ≤ q) (h1 : q ≤ 100000) : (Instr.lookup 52 (.map (some mb)) (.int .i64 q) false).run Try.prog w = .ok (.int .i64 (f q)) w := by
  obtain ⟨c, hrun, hat, _⟩ := h.1.lookup_int keyedInt Try.underlying52 Try.underlying3 (zeroInt w) (key_int q (by omega) (by omega))
  rw [h.2 q] at hat
  have hc : c = (f q : Int) := by
    have e := DataW.lit.inj hat
    exact (Lit.int.inj e).2.symm
  rw [hc] at hrun
  exact hrun
def bump (f : Int → Nat) (q : Int) : Int → Nat := fun x => if x = q then f q + 1 else f x
theorem GotAt.bump {w w' : World} {mb cnt : Nat} {f : Int → Nat} {D : DataW Unit} {q : Int} (h : GotAt w mb cnt f D) (ho : w'.ownsMap Try.prog 3 (plainElem Try.prog 3) mb (cnt + 1) (D.put (.int .i64 q) (.lit (.int .i64 ((f q : Int) + 1))))) :
    GotAt w' mb (cnt + 1) (Go.Proofs.Ytpjmdnhoiobedaa.bump f q) (D.put (.int .i64 q) (.lit (.int .i64 ((f q : Int) + 1)))) := by
  refine ⟨ho, fun x => ?_⟩
  unfold Go.Proofs.Ytpjmdnhoiobedaa.bump
  by_cases e : x = q
  · subst e
    rw [if_pos rfl, atKey_put_same h.1.isMap (keyLit_int _)]
    rfl
  · rw [if_neg e, atKey_put_other (lit_ne e)]
    exact h.2 x
theorem wf_small {n : Int} (h0 : 0 ≤ n) (h1 : n ≤ 100000) : (Lit.int .i64 n).wf = true := WalkArith.wf_i64 ⟨by omega, by omega⟩

theorem zeroBool (w : World) : (zeroValue 4).run Try.prog w = .ok (.bool false) w := by kernel_rfl
theorem bool_inv {P : Program} {e : TypeId} (he : P.underlying e = some .bool) {v : Value} {x : Bool} {ps : List MemPlace} (h : plainElem (H := Unit) P e v = some (.lit (.bool x), ps)) : v = .bool x := by
  unfold plainElem at h
  rw [he] at h
  cases v <;> simp at h
  rw [h.1]
/-- Block mb is a map of at most cnt entries that has just the marked ones. -/
def OffAt (w : World) (mb cnt : Nat) (ever : Int → Bool) (D : DataW Unit) : Prop :=
  w.ownsMap Try.prog 3 (plainElem Try.prog 4) mb cnt D ∧ ∀ q : Int, D.atKey (.int .i64 q) (.lit (.bool false)) = .lit (.bool (ever q))
theorem OffAt.keep {w w' : World} {mb cnt : Nat} {ever : Int → Bool} {D : DataW Unit} (h : OffAt w mb cnt ever D) (e : w'.heap[mb]? = w.heap[mb]?) : OffAt w' mb cnt ever D := ⟨own_keepM h.1 e, h.2⟩
theorem off_new (w : World) : OffAt (w.alloc (.map #[] 0)) w.heap.size 0 (fun _ => false) (.map []) := ⟨World.ownsMap_made w _ _ _, fun q => rfl⟩
theorem OffAt.look {w : World} {mb cnt : Nat} {ever : Int → Bool} {D : DataW Unit} (h : OffAt w mb cnt ever D) (q : Int) (h0 : -9223372036854775808 ≤ q) (h1 : q ≤ 9223372036854775807) : (Instr.lookup 53 (.map (some mb)) (.int .i64 q) false).run Try.prog w = .ok (.bool (ever q)) w := by
  obtain ⟨v, ps, hrun, hv⟩ := h.1.lookup keyedInt Try.underlying53 (zeroBool w) (plainElem_bool Try.underlying4 false) (key_int q h0 h1)
  rw [h.2 q] at hv
  rw [hrun, bool_inv Try.underlying4 hv]
def mark (ever : Int → Bool) (q : Int) : Int → Bool := fun x => if x = q then true else ever x
theorem mark_old {ever : Int → Bool} {q x : Int} (h : ever x = true) : mark ever q x = true := by
  unfold mark
  split
  · rfl
  · exact h
theorem mark_new (ever : Int → Bool) (q : Int) : mark ever q q = true := by unfold mark; rw [if_pos rfl]
theorem OffAt.mark {w w' : World} {mb cnt : Nat} {ever : Int → Bool} {D : DataW Unit} {q : Int} (h : OffAt w mb cnt ever D) (ho : w'.ownsMap Try.prog 3 (plainElem Try.prog 4) mb (cnt + 1) (D.put (.int .i64 q) (.lit (.bool true)))) :
    OffAt w' mb (cnt + 1) (Go.Proofs.Ytpjmdnhoiobedaa.mark ever q) (D.put (.int .i64 q) (.lit (.bool true))) := by
  refine ⟨ho, fun x => ?_⟩
  unfold Go.Proofs.Ytpjmdnhoiobedaa.mark
  by_cases e : x = q
  · subst e
    rw [if_pos rfl, atKey_put_same h.1.isMap (keyLit_int _)]
  · rw [if_neg e, atKey_put_other (lit_ne e)]
    exact h.2 x

end Go.Proofs.Ytpjmdnhoiobedaa
