/-
  Fields: how many fields a kind has, or -1.
  Conditions: none.
-/
import Derived.Test.YtnddojngbolbfaaDoorFirstWrong
set_option linter.unusedVariables false
namespace Go.Proofs.YtnddojngbolbfaaDoor
open Go.RowKit

def fieldsN (op : Int) : Int := match fieldsT op with | none => -1 | some fs => (fs.length : Int)

structure CountI (n : Nat) (w : World) (i : Nat) (W : World) : Prop where
  box : Boxed W n 3 (.int .i64 i)
  below : Below n w W

set_option maxRecDepth 100000 in
set_option maxHeartbeats 1000000 in
theorem count_step (b : Nat) (fs : List Nat) (hl : fs.length ≤ 100) (n : Nat) (w : World) : StepI 27 #[.pointer (some ⟨n, 0, none⟩)] b fs (CountI n w) := by
  intro i j W hij ⟨h1, h2⟩
  have hi : i < 100 := by have := (List.getElem?_eq_some_iff.1 hij).1; omega
  have e1 := h1.cell
  have f1 := h1.frozen
  have H1 := Lib.hid h1
  have H2 := Lib.hid h2
  clear h1 h2 hij
  go_enter Tryd.func27, Tryd.ntmps27
  go_wp2
  refine bodyPost_end (results_none rfl _ _ _) rfl ?_
  exact ⟨rfl, H1.out.set _, H2.out.setCell (p := ⟨n, 0, none⟩) (Nat.le_refl _) _⟩

set_option maxRecDepth 100000 in
set_option maxHeartbeats 1000000 in
theorem fields_any (eg1 : EG 27) (op : Int) (w : World) :
    Calls Tryd.prog 12 #[.int .i64 op] w (RetB (.int .i64 (fieldsN op)) w) := by
  have b1 : Below w.heap.size w (w.alloc (.cells #[.int .i64 0] 3)) := (Below.refl _ _).alloc (Nat.le_refl _) _
  have b2 : Below w.heap.size w ((w.alloc (.cells #[.int .i64 0] 3)).alloc (.cells (cmdA (opC op)) 23)) := b1.alloc (by simp) _
  have hc : CmdAt ((w.alloc (.cells #[.int .i64 0] 3)).alloc (.cells (cmdA (opC op)) 23)) (w.heap.size + 1) (opC op) := by
    have := World.alloc_heap_new (w.alloc (.cells #[.int .i64 0] 3)) (.cells (cmdA (opC op)) 23)
    rwa [World.size_alloc] at this
  have h0 := hc.cell (j := 0) (by decide)
  have HI := Lib.hid (show CountI w.heap.size w 0 ((w.alloc (.cells #[.int .i64 0] 3)).alloc (.cells (cmdA (opC op)) 23)) from ⟨(Boxed.new w _ _).alloc _, b2⟩)
  have HB := Lib.hid b2
  have H0 := Lib.hid h0
  clear b1 b2 hc h0
  cases hfs : fieldsT op with
  | none =>
    have hr : fieldsN op = -1 := by unfold fieldsN; rw [hfs]
    rw [hr]
    have HE := Lib.hid (fun f => each_none f (w.heap.size + 1) op _ H0.out hfs)
    clear hfs hr
    go_enter Tryd.func12, Tryd.ntmps12
    go_wp2_with fail
    refine (HE.out _).mono ?_
    rintro e w1 ⟨rfl, rfl⟩
    go_wp2
    go_ret
    exact ⟨rfl, HB.out⟩
  | some fs =>
    have hr : fieldsN op = (fs.length : Int) := by unfold fieldsN; rw [hfs]
    rw [hr]
    have HE := Lib.hid (each_any 27 #[.pointer (some ⟨w.heap.size, 0, none⟩)] eg1 (w.heap.size + 1) op fs hfs _ H0.out _ HI.out (count_step _ fs (by have := fieldsT_len hfs; omega) _ w))
    clear hfs hr
    go_enter Tryd.func12, Tryd.ntmps12
    go_wp2_with fail
    refine HE.out.mono ?_
    rintro e w1 ⟨rfl, h1, h2⟩
    have e1 := h1.cell
    have H2 := Lib.hid h2
    clear h1 h2
    go_wp2
    go_ret
    exact ⟨rfl, H2.out⟩
end Go.Proofs.YtnddojngbolbfaaDoor
