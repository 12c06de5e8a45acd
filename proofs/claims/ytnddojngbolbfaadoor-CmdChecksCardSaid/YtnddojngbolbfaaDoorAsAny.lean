/-
  errors.As, Go's own text, at a pointer to a *fault.Fault variable: over any error of the program, nil too, it finds the outermost Fault, or none.
  Conditions: the variable errors.errorType holds its handle; the target lies in a block of its own above all Faults.
-/
import Derived.Test.YtnddojngbolbfaaDoorAsLoop
namespace Go.Proofs.YtnddojngbolbfaaDoor
open Go.RowKit Go.Extern.Stop Go.Stop Go.Extern

/-- The variable errors.errorType as start-up leaves it. -/
def EType (w : World) : Prop := w.cell? ⟨0, 0, none⟩ = some (.iface 127 (.agg #[.pointer (some ⟨5, 27, none⟩)]))

theorem lt_of_cell {w : World} {b o : Nat} {v : Value} (h : w.cell? ⟨b, o, none⟩ = some v) : b < w.heap.size := by
  rcases Nat.lt_or_ge b w.heap.size with h' | h'
  · exact h'
  · simp [World.cell?, Array.getElem?_eq_none h'] at h

theorem AsPost.from {bt : Nat} {old : Value} {is : List Item} {w w1 w' : World} {e : Ending} (h : AsPost bt old is w1 e w') (hb : Below bt w w1) : AsPost bt old is w e w' :=
  ⟨h.1, hb.trans h.2.1, h.2.2⟩

set_option maxRecDepth 100000 in
set_option maxHeartbeats 2000000 in
theorem as_some (v : Value) (is : List Item) (bt : Nat) (w : World) (hch : Chain bt w v is) (hv : v ≠ .nilIface) (hg : EType w)
    (old : Value) (hct : w.cell? ⟨bt, 0, none⟩ = some old) (hft : w.frozen? ⟨bt, 0, none⟩ = false) :
    Calls Tryd.prog 54 #[v, .iface 100 (.pointer (some ⟨bt, 0, none⟩))] w (AsPost bt old is w) := by
  have hbt := lt_of_cell hct
  have hg0 := lt_of_cell hg
  obtain ⟨W2, hW2⟩ : ∃ W2, W2 = (w.alloc (.cells #[.pointer (some ⟨bt, 0, none⟩)] 100)).alloc (.cells #[.pointer (some ⟨5, 100, none⟩), .pointer (some ⟨w.heap.size, 0, none⟩), .int .u64 150] 118) := ⟨_, rfl⟩
  have hB : Below w.heap.size w W2 := by subst hW2; exact ((Below.refl _ _).alloc (Nat.le_refl _) _).alloc (by simp) _
  have hL : Hid (Calls Tryd.prog 65 #[v, .iface 100 (.pointer (some ⟨bt, 0, none⟩)), .agg #[.pointer (some ⟨5, 100, none⟩), .pointer (some ⟨w.heap.size, 0, none⟩), .int .u64 150], .iface 127 (.agg #[.pointer (some ⟨5, 80, none⟩)])] W2 (AsPost bt old is w)) := by
    refine (as_loop v is bt w.heap.size W2 (hch.kept (Nat.le_of_lt hbt) hB) hv hbt (by subst hW2; simp; omega) (by subst hW2; simp) old ?_ ?_ _).mono fun e w' h => h.from (hB.mono (by omega))
    · rw [hB.cell (p := ⟨bt, 0, none⟩) hbt]; exact hct
    · rw [hB.frozen (p := ⟨bt, 0, none⟩) hbt]; exact hft
  subst hW2
  have hgA : ((w.alloc (.cells #[.pointer (some ⟨bt, 0, none⟩)] 100)).alloc (.cells #[.pointer (some ⟨5, 100, none⟩), .pointer (some ⟨w.heap.size, 0, none⟩), .int .u64 150] 118)).cell? ⟨0, 0, none⟩ = some (.iface 127 (.agg #[.pointer (some ⟨5, 27, none⟩)])) := by
    rw [hB.cell (p := ⟨_, 0, none⟩) hg0]; exact hg
  obtain ⟨T, x, rfl⟩ := hch.iface hv
  have hE := fun W => run_eql_held_nil (P := Tryd.prog) W 27 T x (by kernel_rfl)
  have hE2 := fun W y => run_eql_held_nil (P := Tryd.prog) W 20 100 y (by kernel_rfl)
  have h42 := @run_callFunc_extern Tryd.prog 62 _ (fun args => ReflectliteValue.unpack (args.getD 0 (.tuple #[]))) Tryd.func62 (by kernel_rfl) (by kernel_rfl) (by kernel_rfl) (by kernel_rfl)
  have h43 := @run_callFunc_extern Tryd.prog 63 _ (ReflectliteValue.methodAny (ReflectliteValue.valueError "reflectlite.Value.Type" 0) (fun t _ _ _ => ReflectliteType.toType t)) Tryd.func63 (by kernel_rfl) (by kernel_rfl) (by kernel_rfl) (by kernel_rfl)
  have h44 := @run_callFunc_extern Tryd.prog 64 _ (ReflectliteValue.method (ReflectliteValue.valueError "reflectlite.Value.IsNil" 0) ReflectliteValue.isNil) Tryd.func64 (by kernel_rfl) (by kernel_rfl) (by kernel_rfl) (by kernel_rfl)
  have h80 := @run_callFunc_extern Tryd.prog 100 _ (ReflectliteType.abiMethod fun t => do pure (.int .u8 (← Rtype.kind t))) Tryd.func100 (by kernel_rfl) (by kernel_rfl) (by kernel_rfl) (by kernel_rfl)
  have h90 := @run_callFunc_extern Tryd.prog 114 _ (ReflectliteType.method ReflectliteType.elem) Tryd.func114 (by kernel_rfl) (by kernel_rfl) (by kernel_rfl) (by kernel_rfl)
  have h91 := @run_callFunc_extern Tryd.prog 115 _ (ReflectliteType.relation "Implements" ReflectliteType.implements_) Tryd.func115 (by kernel_rfl) (by kernel_rfl) (by kernel_rfl) (by kernel_rfl)
  have f42 := Tryd.valueOfT
  have f43 := Tryd.typeT
  have mK := Tryd.methodKind
  have mE := Tryd.methodElem
  have mI := Tryd.methodImplements
  have kT := Tryd.kindT
  have kF := Tryd.kindF
  have eT := Tryd.elemT
  have iF := Tryd.implementsF
  have n8 := Tryd.isNilT ⟨w.heap.size, 0, none⟩ ⟨bt, 0, none⟩ ((w.alloc (.cells #[.pointer (some ⟨bt, 0, none⟩)] 100)).alloc (.cells #[.pointer (some ⟨5, 100, none⟩), .pointer (some ⟨w.heap.size, 0, none⟩), .int .u64 150] 118)) (by simp)
  clear hB hg hct hft hch hv
  go_enter Tryd.func54, Tryd.ntmps54
  go_wp2_with (go_at_call 65; refine hL.out.mono ?_; rintro e w' ⟨rfl, hq⟩)
  go_ret
  exact ⟨rfl, hq⟩

theorem as_nil (t : Value) (w : World) : Calls Tryd.prog 54 #[.nilIface, t] w fun e w' => e = .returned (.bool false) ∧ w' = w := by
  go_enter Tryd.func54, Tryd.ntmps54
  go_wp2
  go_ret
  exact ⟨rfl, rfl⟩

theorem as_any (v : Value) (is : List Item) (bt : Nat) (w : World) (hch : Chain bt w v is) (hg : EType w)
    (old : Value) (hct : w.cell? ⟨bt, 0, none⟩ = some old) (hft : w.frozen? ⟨bt, 0, none⟩ = false) :
    Calls Tryd.prog 54 #[v, .iface 100 (.pointer (some ⟨bt, 0, none⟩))] w (AsPost bt old is w) := by
  by_cases hv : v = .nilIface
  · subst hv
    cases hch
    refine (as_nil _ w).mono fun e w' ⟨he, hw⟩ => ?_
    subst he; subst hw
    exact ⟨rfl, Below.refl _ _, hct, hft⟩
  · exact as_some v is bt w hch hv hg old hct hft
end Go.Proofs.YtnddojngbolbfaaDoor
