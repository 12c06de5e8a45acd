/-
  errors.as, Go's own text, at a target of type **fault.Fault: over any error of the program it finds the outermost Fault, or none.
  Conditions: none beyond those that each statement lists.
-/
import Derived.Test.YtnddojngbolbfaaDoorChain
import Derived.Deep.LoopGhost
import Derived.Outline
import Derived.Lib.Hide
namespace Go.Proofs.YtnddojngbolbfaaDoor
open Go.RowKit Go.Extern.Stop Go.Stop Go.Extern

/-- What the loop of errors.as keeps: the target's cell, the Value of the target and its box. -/
structure AsSt (bt a n : Nat) (old : Value) (w wr : World) : Prop where
  below : Below bt w wr
  tgt : wr.cell? ⟨bt, 0, none⟩ = some old
  tgtF : wr.frozen? ⟨bt, 0, none⟩ = false
  val : wr.cell? ⟨a, 0, none⟩ = some (.pointer (some ⟨bt, 0, none⟩))
  b0 : wr.cell? ⟨n, 0, none⟩ = some (.pointer (some ⟨5, 100, none⟩))
  b1 : wr.cell? ⟨n, 1, none⟩ = some (.pointer (some ⟨a, 0, none⟩))
  b2 : wr.cell? ⟨n, 2, none⟩ = some (.int .u64 150)
  size : n < wr.heap.size

theorem AsSt.step {bt a n : Nat} {old : Value} {w wr w' : World} (h : AsSt bt a n old w wr) (hb : Below wr.heap.size wr w') (h1 : bt < a) (h2 : a < n) : AsSt bt a n old w w' := by
  have hs := h.size
  refine ⟨h.below.trans (hb.mono (by omega)), ?_, ?_, ?_, ?_, ?_, ?_, Nat.lt_of_lt_of_le h.size hb.size⟩
  · rw [hb.cell (p := ⟨bt, 0, none⟩) (by show bt < _; omega)]; exact h.tgt
  · rw [hb.frozen (p := ⟨bt, 0, none⟩) (by show bt < _; omega)]; exact h.tgtF
  · rw [hb.cell (p := ⟨a, 0, none⟩) (by show a < _; omega)]; exact h.val
  · rw [hb.cell (p := ⟨n, 0, none⟩) hs]; exact h.b0
  · rw [hb.cell (p := ⟨n, 1, none⟩) hs]; exact h.b1
  · rw [hb.cell (p := ⟨n, 2, none⟩) hs]; exact h.b2

/-- What errors.as comes to. -/
def AsPost (bt : Nat) (old : Value) (is : List Item) (w : World) (e : Ending) (w' : World) : Prop :=
  e = .returned (.bool (!is.isEmpty)) ∧ Below bt w w' ∧ w'.cell? ⟨bt, 0, none⟩ = some (match is with | [] => old | i :: _ => i.ptr) ∧ w'.frozen? ⟨bt, 0, none⟩ = false

theorem Chain.iface {B : Nat} {w : World} {v : Value} {is : List Item} (c : Chain B w v is) (hv : v ≠ .nilIface) : ∃ T x, v = .iface T x := by
  cases c with
  | nil => exact absurd rfl hv
  | fault _ _ _ _ => exact ⟨_, _, rfl⟩

theorem as_hit {bt : Nat} {w wr : World} {old : Value} (i : Item) (is : List Item) (o : Obj) (p1 : Below bt w wr) (hn : bt < wr.heap.size) (p2 : wr.cell? ⟨bt, 0, none⟩ = some old) (p3 : wr.frozen? ⟨bt, 0, none⟩ = false) :
    AsPost bt old (i :: is) w (.returned (.bool true)) ((wr.alloc o).setCell ⟨bt, 0, none⟩ (.pointer (some ⟨i.b, 0, none⟩))) := by
  rw [World.setCell_alloc_past o bt 0 _ hn]
  refine ⟨rfl, (p1.setCell (p := ⟨bt, 0, none⟩) (Nat.le_refl _) _).alloc (by simp; omega) _, ?_, ?_⟩
  · rw [World.cell?_alloc_lt _ _ ⟨bt, 0, none⟩ (by simpa using hn), World.cell?_setCell_same _ _ _ p2]; rfl
  · rw [World.frozen?_alloc_old _ _ ⟨bt, 0, none⟩ (by simp; omega), World.frozen?_setCell]; exact p3

set_option maxRecDepth 100000 in
set_option maxHeartbeats 2000000 in
theorem as_loop (v : Value) (is : List Item) (bt a : Nat) (w : World) (hch : Chain bt w v is) (hv : v ≠ .nilIface)
    (hta : bt < a) (haw : a < w.heap.size) (hca : w.cell? ⟨a, 0, none⟩ = some (.pointer (some ⟨bt, 0, none⟩)))
    (old : Value) (hct : w.cell? ⟨bt, 0, none⟩ = some old) (hft : w.frozen? ⟨bt, 0, none⟩ = false) (t1 : Value) :
    Calls Tryd.prog 65 #[v, t1, .agg #[.pointer (some ⟨5, 100, none⟩), .pointer (some ⟨a, 0, none⟩), .int .u64 150], .iface 127 (.agg #[.pointer (some ⟨5, 80, none⟩)])] w (AsPost bt old is w) := by
  have H0 : AsSt bt a w.heap.size old w (w.alloc (.cells #[.pointer (some ⟨5, 100, none⟩), .pointer (some ⟨a, 0, none⟩), .int .u64 150] 118)) := by
    have hb : Below w.heap.size w (w.alloc (.cells #[.pointer (some ⟨5, 100, none⟩), .pointer (some ⟨a, 0, none⟩), .int .u64 150] 118)) := (Below.refl _ _).alloc (Nat.le_refl _) _
    refine ⟨hb.mono (by omega), ?_, ?_, ?_, by simp, by simp, by simp, by simp⟩
    · rw [hb.cell (p := ⟨bt, 0, none⟩) (by show bt < _; omega)]; exact hct
    · rw [hb.frozen (p := ⟨bt, 0, none⟩) (by show bt < _; omega)]; exact hft
    · rw [hb.cell (p := ⟨a, 0, none⟩) (by show a < _; omega)]; exact hca
  have hkc := hch.kept (C := w.heap.size) (w' := w.alloc (.cells #[.pointer (some ⟨5, 100, none⟩), .pointer (some ⟨a, 0, none⟩), .int .u64 150] 118)) (by omega) ((Below.refl _ _).alloc (Nat.le_refl _) _)
  go_enter Tryd.func65, Tryd.ntmps65
  have HV := Lib.hid hv
  clear hv hch hca hct hft
  go_wp2_with fail
  go_loopw [0] (fun v wr => v ≠ .nilIface ∧ Chain bt wr v is ∧ AsSt bt a w.heap.size old w wr) (fun v _ => SizeOf.sizeOf v)
  case atStart => exact ⟨HV.out, hkc, H0⟩
  case round =>
    obtain ⟨hv, hc, hs⟩ := hrel
    have h31 := @run_callFunc_extern Tryd.prog 59 _ ReflectliteType.typeOf Tryd.func59 (by kernel_rfl) (by kernel_rfl) (by kernel_rfl) (by kernel_rfl)
    have h88 := @run_callFunc_extern Tryd.prog 112 _ (ReflectliteType.relation "AssignableTo" ReflectliteType.assignableTo) Tryd.func112 (by kernel_rfl) (by kernel_rfl) (by kernel_rfl) (by kernel_rfl)
    have mA := Tryd.methodAssignableTo
    cases hc with
    | nil => exact absurd rfl hv
    | @fault i v1 is1 hb hc0 hc' =>
      have tO := Tryd.typeOfF
      have aA := Tryd.assignF
      have vO := Tryd.valueOfF
      have h42 := @run_callFunc_extern Tryd.prog 62 _ (fun args => ReflectliteValue.unpack (args.getD 0 (.tuple #[]))) Tryd.func62 (by kernel_rfl) (by kernel_rfl) (by kernel_rfl) (by kernel_rfl)
      have h50 := @run_callFunc_extern Tryd.prog 70 _ (ReflectliteValue.method (ReflectliteValue.valueError "reflectlite.Value.Elem" 0) ReflectliteValue.elem) Tryd.func70 (by kernel_rfl) (by kernel_rfl) (by kernel_rfl) (by kernel_rfl)
      have h51 := @run_callFunc_extern Tryd.prog 71 _ ReflectliteValue.set Tryd.func71 (by kernel_rfl) (by kernel_rfl) (by kernel_rfl) (by kernel_rfl)
      have hB : Below wr.heap.size wr (wr.alloc (.cells #[.pointer (some ⟨i.b, 0, none⟩)] 80)) := (Below.refl _ _).alloc (Nat.le_refl _) _
      have hbn : bt < wr.heap.size := by have := hs.size; omega
      have el := Tryd.elemVT ⟨a, 0, none⟩ ⟨bt, 0, none⟩ wr hs.val
      have st := Tryd.setF ⟨bt, 0, none⟩ ⟨wr.heap.size, 0, none⟩ ⟨i.b, 0, none⟩ old (wr.alloc (.cells #[.pointer (some ⟨i.b, 0, none⟩)] 80)) (by simp)
        (by rw [hB.cell (p := ⟨bt, 0, none⟩) hbn]; exact hs.tgt) (by rw [hB.frozen (p := ⟨bt, 0, none⟩) hbn]; exact hs.tgtF)
      obtain ⟨p1, p2, p3, p4, p5, p6, p7, p8⟩ := hs
      have F : Hid (AsPost bt old (i :: is1) w (.returned (.bool true)) ((wr.alloc (.cells #[.pointer (some ⟨i.b, 0, none⟩)] 80)).setCell ⟨bt, 0, none⟩ (.pointer (some ⟨i.b, 0, none⟩)))) := as_hit i is1 _ p1 hbn p2 p3
      clear hB hbn
      go_wp2
      go_ret
      exact ⟨rfl, F.out.2⟩
end Go.Proofs.YtnddojngbolbfaaDoor
