/-
  fault.outermost: over any error of the program it hands back the outermost Fault's pointer, or nil; what stood in memory stands.
  Conditions: the variable errors.errorType holds its handle.
-/
import Derived.Test.YtnddojngbolbfaaDoorAsAny
import Derived.Defers
import Derived.Recover
import Derived.Laws.Pointers
namespace Go.Proofs.YtnddojngbolbfaaDoor
open Go.RowKit Go.Extern.Stop Go.Stop Go.Extern

/-- The pointer to the first Fault. -/
def ptrOf : List Item → Value
  | [] => .pointer none
  | i :: _ => .pointer (some ⟨i.b, 0, none⟩)

theorem catch_idle (p : Addr) (w : World) :
    CallsD Tryd.prog 53 #[.pointer (some p)] .returning w fun e u' w' => e = .returned (.tuple #[]) ∧ u' = .returning ∧ w' = w := by
  refine callsD_of_wpS Tryd.func53 rfl fun c₀ cs hu => ?_
  apply wpS_seq
  apply wpS_region
  simp [wpOpsS, go_sem, recoverD, hu, Tryd.ntmps53, Exit.thenS]
  refine wpS_cond (t := false) (by simp [Act.eval, Array.replicate]) ?_
  simp only [Bool.false_eq_true, if_false]
  refine wpS_of_wp (wp_skip ?_)
  cases c₀
  simp_all [bodyPostS, results, Tryd.results53]

/-- What outermost comes to. -/
def OuterPost (is : List Item) (w : World) (e : Ending) (w' : World) : Prop := e = .returned (ptrOf is) ∧ Below w.heap.size w w'

set_option maxRecDepth 100000 in
set_option maxHeartbeats 2000000 in
theorem outer_some (v : Value) (i : Item) (is : List Item) (w : World) (hch : Chain w.heap.size w v (i :: is)) (hg : EType w) :
    Calls Tryd.prog 40 #[v] w (OuterPost (i :: is) w) := by
  have hmf : ∀ (fn : Fn) (first cap : Array Value) (w : World), (Instr.makeFunc fn first cap).run Tryd.prog w = .ok (.func fn first cap) w := fun _ _ _ _ => rfl
  have hg0 := lt_of_cell hg
  obtain ⟨W2, hW2⟩ : ∃ W2, W2 = (w.alloc (.cells #[.pointer none] 80)).alloc (.cells #[.pointer none] 80) := ⟨_, rfl⟩
  have hB : Below w.heap.size w W2 := by subst hW2; exact ((Below.refl _ _).alloc (Nat.le_refl _) _).alloc (by simp) _
  have hL : Hid (Calls Tryd.prog 54 #[v, .iface 100 (.pointer (some ⟨w.heap.size + 1, 0, none⟩))] W2
      fun e w' => e = .returned (.bool true) ∧ Below w.heap.size w w' ∧ w'.cell? ⟨w.heap.size, 0, none⟩ = some (.pointer none) ∧ w'.frozen? ⟨w.heap.size, 0, none⟩ = false ∧ w'.cell? ⟨w.heap.size + 1, 0, none⟩ = some (.pointer (some ⟨i.b, 0, none⟩)) ∧ w.heap.size < w'.heap.size) := by
    refine (as_any v (i :: is) (w.heap.size + 1) W2 ((hch.kept (Nat.le_refl _) hB).up (by omega)) ?_ (.pointer none) (by subst hW2; simp) (by subst hW2; simp)).mono fun e w' ⟨h1, h2, h3, h4⟩ => ⟨h1, hB.trans (h2.mono (by omega)), ?_, ?_, h3, ?_⟩
    · unfold EType; rw [hB.cell (p := ⟨_, 0, none⟩) hg0]; exact hg
    · rw [h2.cell (p := ⟨w.heap.size, 0, none⟩) (Nat.lt_succ_self _)]; subst hW2; simp
    · rw [h2.frozen (p := ⟨w.heap.size, 0, none⟩) (Nat.lt_succ_self _)]; subst hW2; simp
    · have := h2.size; subst hW2; simp at this; omega
  subst hW2
  clear hB hg hch
  go_enter_defers Tryd.func40, Tryd.ntmps40
  go_wp2_with (go_at_call 54; refine hL.out.mono ?_; rintro e w' ⟨rfl, hb, c1, c2, c3, c4⟩)
  refine leaves_cons (f := 53) (args := #[.pointer (some ⟨w.heap.size, 0, none⟩)]) (by simp) (by simp [go_sem]) ?_
  refine (catch_idle ⟨w.heap.size, 0, none⟩ _).mono ?_
  rintro e u' w'' ⟨rfl, rfl, rfl⟩
  have hs := World.cell?_setCell_same _ _ (.pointer (some ⟨i.b, 0, none⟩)) c1
  have hF : OuterPost (i :: is) w (.returned (.pointer (some ⟨i.b, 0, none⟩))) (w'.setCell ⟨w.heap.size, 0, none⟩ (.pointer (some ⟨i.b, 0, none⟩))) := ⟨rfl, hb.setCell (p := ⟨w.heap.size, 0, none⟩) (Nat.le_refl _) _⟩
  simp [Leaves, settle, results, Tryd.results40, go_sem, hs, hF]

set_option maxRecDepth 100000 in
set_option maxHeartbeats 2000000 in
theorem outer_none (v : Value) (w : World) (hch : Chain w.heap.size w v []) (hg : EType w) :
    Calls Tryd.prog 40 #[v] w (OuterPost [] w) := by
  have hmf : ∀ (fn : Fn) (first cap : Array Value) (w : World), (Instr.makeFunc fn first cap).run Tryd.prog w = .ok (.func fn first cap) w := fun _ _ _ _ => rfl
  have hg0 := lt_of_cell hg
  obtain ⟨W2, hW2⟩ : ∃ W2, W2 = (w.alloc (.cells #[.pointer none] 80)).alloc (.cells #[.pointer none] 80) := ⟨_, rfl⟩
  have hB : Below w.heap.size w W2 := by subst hW2; exact ((Below.refl _ _).alloc (Nat.le_refl _) _).alloc (by simp) _
  have hL : Hid (Calls Tryd.prog 54 #[v, .iface 100 (.pointer (some ⟨w.heap.size + 1, 0, none⟩))] W2
      fun e w' => e = .returned (.bool false) ∧ Below w.heap.size w w' ∧ w'.cell? ⟨w.heap.size, 0, none⟩ = some (.pointer none) ∧ w'.frozen? ⟨w.heap.size, 0, none⟩ = false ∧ w.heap.size < w'.heap.size) := by
    refine (as_any v [] (w.heap.size + 1) W2 ((hch.kept (Nat.le_refl _) hB).up (by omega)) ?_ (.pointer none) (by subst hW2; simp) (by subst hW2; simp)).mono fun e w' ⟨h1, h2, h3, h4⟩ => ⟨h1, hB.trans (h2.mono (by omega)), ?_, ?_, ?_⟩
    · unfold EType; rw [hB.cell (p := ⟨_, 0, none⟩) hg0]; exact hg
    · rw [h2.cell (p := ⟨w.heap.size, 0, none⟩) (Nat.lt_succ_self _)]; subst hW2; simp
    · rw [h2.frozen (p := ⟨w.heap.size, 0, none⟩) (Nat.lt_succ_self _)]; subst hW2; simp
    · have := h2.size; subst hW2; simp at this; omega
  subst hW2
  clear hB hg hch
  go_enter_defers Tryd.func40, Tryd.ntmps40
  go_wp2_with (go_at_call 54; refine hL.out.mono ?_; rintro e w' ⟨rfl, hb, c1, c2, c4⟩)
  refine leaves_cons (f := 53) (args := #[.pointer (some ⟨w.heap.size, 0, none⟩)]) (by simp) (by simp [go_sem]) ?_
  refine (catch_idle ⟨w.heap.size, 0, none⟩ _).mono ?_
  rintro e u' w'' ⟨rfl, rfl, rfl⟩
  have hs := World.cell?_setCell_same _ _ (.pointer none) c1
  have hF : OuterPost [] w (.returned (.pointer none)) (w'.setCell ⟨w.heap.size, 0, none⟩ (.pointer none)) := ⟨rfl, hb.setCell (p := ⟨w.heap.size, 0, none⟩) (Nat.le_refl _) _⟩
  simp [Leaves, settle, results, Tryd.results40, go_sem, hs, hF]

theorem outer_any (v : Value) (is : List Item) (w : World) (hch : Chain w.heap.size w v is) (hg : EType w) :
    Calls Tryd.prog 40 #[v] w (OuterPost is w) := by
  cases is with
  | nil => exact outer_none v w hch hg
  | cons i is => exact outer_some v i is w hch hg
end Go.Proofs.YtnddojngbolbfaaDoor
