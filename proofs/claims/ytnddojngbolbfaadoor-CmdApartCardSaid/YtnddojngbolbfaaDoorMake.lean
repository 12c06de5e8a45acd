/-
  fault.Code, New, Wrap, Turn: over any error of the program they make and tell what the links say.
  Conditions: the variable errors.errorType holds its handle.
-/
import Derived.Test.YtnddojngbolbfaaDoorOuter
namespace Go.Proofs.YtnddojngbolbfaaDoor
open Go.RowKit Go.Extern.Stop Go.Stop Go.Extern

theorem EType.kept {w w' : World} (h : EType w) {B : Nat} (hB : 0 < B) (hb : Below B w w') : EType w' := by
  unfold EType; rw [hb.cell (p := ⟨_, 0, none⟩) hB]; exact h
theorem EType.pos {w : World} (h : EType w) : 0 < w.heap.size := lt_of_cell h
theorem EType.later {w w' : World} (h : EType w) (hb : Below w.heap.size w w') : EType w' := h.kept h.pos hb

/-- A Fault's block as its own cells. -/
theorem Chain.head {B : Nat} {w : World} {v : Value} {i : Item} {is : List Item} (c : Chain B w v (i :: is)) :
    i.b < B ∧ ∃ v', w.heap[i.b]? = some (.cells #[.int .i64 i.code, .string i.part, .int .i64 i.pos, v'] 83 (0, 0)) ∧ Chain B w v' is := by
  generalize hl : i :: is = l at c
  induction c with
  | nil => cases hl
  | fault j hb hc c' _ => cases hl; exact ⟨hb, _, hc, c'⟩

def codeOf : Value → List Item → Int
  | .nilIface, _ => 0
  | _, [] => 6
  | _, i :: _ => i.code

theorem codeOf_some {v : Value} (hv : v ≠ .nilIface) (i : Item) (is : List Item) : codeOf v (i :: is) = i.code := by
  cases v <;> first | rfl | exact absurd rfl hv
theorem codeOf_none {v : Value} (hv : v ≠ .nilIface) : codeOf v [] = 6 := by
  cases v <;> first | rfl | exact absurd rfl hv

def CodePost (v : Value) (is : List Item) (w : World) (e : Ending) (w' : World) : Prop := e = .returned (.int .i64 (codeOf v is)) ∧ Below w.heap.size w w'

set_option maxHeartbeats 1000000 in
theorem code_any (v : Value) (is : List Item) (w : World) (hch : Chain w.heap.size w v is) (hg : EType w) :
    Calls Tryd.prog 18 #[v] w (CodePost v is w) := by
  by_cases hv : v = .nilIface
  · subst hv
    go_enter Tryd.func18, Tryd.ntmps18
    go_wp2
    go_ret
    exact ⟨rfl, Below.refl _ _⟩
  · obtain ⟨T, x, hx⟩ := hch.iface hv
    have hE := fun W => run_eql_held_nil (P := Tryd.prog) W 27 T x (by kernel_rfl)
    cases is with
    | nil =>
      have hO := Lib.hid ((outer_none v w hch hg).mono (R' := fun e w' => e = .returned (.pointer none) ∧ Below w.heap.size w w') fun e w' h => ⟨h.1, h.2⟩)
      have HC := Lib.hid (codeOf_none hv)
      subst hx
      clear hv hch hg
      go_enter Tryd.func18, Tryd.ntmps18
      go_wp2_with (go_at_call 40; refine hO.out.mono ?_; rintro e w' ⟨rfl, hb⟩)
      go_ret
      exact ⟨by rw [HC.out]; rfl, hb⟩
    | cons i is =>
      have hO := Lib.hid ((outer_some v i is w hch hg).mono (R' := fun e w' => e = .returned (.pointer (some ⟨i.b, 0, none⟩)) ∧ Below w.heap.size w w') fun e w' h => ⟨h.1, h.2⟩)
      have HC := Lib.hid (codeOf_some hv i is)
      obtain ⟨hib, v', hcell, _⟩ := hch.head
      obtain ⟨c0, _, _, _⟩ := cell_of_block4 hcell
      have hc : ∀ w', Below w.heap.size w w' → w'.cell? ⟨i.b, 0, none⟩ = some (.int .i64 i.code) := fun w' hb => by rw [hb.cell (p := ⟨i.b, 0, none⟩) hib]; exact c0
      have Hc := Lib.hid hc
      subst hx
      clear hv hch hg hc hcell c0 hib
      go_enter Tryd.func18, Tryd.ntmps18
      go_wp2_with (go_at_call 40; refine hO.out.mono ?_; rintro e w' ⟨rfl, hb⟩; have hcw := Hc.out w' hb)
      go_ret
      exact ⟨by rw [HC.out]; rfl, hb⟩

/-- What New, Wrap and Turn come to where they make an error. -/
def MadePost (c : Int) (part : ByteArray) (pos : Int) (is : List Item) (w : World) (e : Ending) (w' : World) : Prop :=
  ∃ b, w.heap.size ≤ b ∧ e = .returned (.iface 80 (.pointer (some ⟨b, 0, none⟩))) ∧ Below w.heap.size w w' ∧ Chain w'.heap.size w' (.iface 80 (.pointer (some ⟨b, 0, none⟩))) (⟨b, c, part, pos⟩ :: is)

theorem made_of {c : Int} {part : ByteArray} {pos : Int} {v : Value} {is : List Item} {w w1 : World} (hb : Below w.heap.size w w1) (hch : Chain w.heap.size w v is) :
    MadePost c part pos is w (.returned (.iface 80 (.pointer (some ⟨w1.heap.size, 0, none⟩)))) (w1.alloc (.cells #[.int .i64 c, .string part, .int .i64 pos, v] 83)) := by
  have h1 : Below w1.heap.size w1 (w1.alloc (.cells #[.int .i64 c, .string part, .int .i64 pos, v] 83)) := (Below.refl _ _).alloc (Nat.le_refl _) _
  refine ⟨_, hb.size, rfl, hb.trans (h1.mono hb.size), ?_⟩
  refine .fault (i := ⟨w1.heap.size, c, part, pos⟩) (v := v) ?_ ?_ ?_
  · show w1.heap.size < (w1.heap.push _).size
    simp
  · show (w1.heap.push _)[w1.heap.size]? = _
    simp
  · exact ((hch.kept (Nat.le_refl _) hb).up hb.size).kept (Nat.le_refl _) h1 |>.up (by simp)

set_option maxHeartbeats 1000000 in
theorem new_zero (part : ByteArray) (pos : Int) (w : World) :
    Calls Tryd.prog 20 #[.int .i64 0, .string part, .int .i64 pos] w fun e w' => e = .returned .nilIface ∧ w = w' := by
  go_enter Tryd.func20, Tryd.ntmps20
  go_wp2
  go_ret
  exact ⟨rfl, rfl⟩

set_option maxHeartbeats 1000000 in
theorem new_some (c : Int) (part : ByteArray) (pos : Int) (w : World) (hc : (c == 0) = false) :
    Calls Tryd.prog 20 #[.int .i64 c, .string part, .int .i64 pos] w (MadePost c part pos [] w) := by
  have F := Lib.hid (made_of (c := c) (part := part) (pos := pos) (Below.refl w.heap.size w) (Chain.nil (B := w.heap.size) (w := w)))
  go_enter Tryd.func20, Tryd.ntmps20
  go_wp2
  go_ret
  exact F.out

set_option maxHeartbeats 1000000 in
theorem wrap_nil (part : ByteArray) (pos : Int) (w : World) :
    Calls Tryd.prog 23 #[.nilIface, .string part, .int .i64 pos] w fun e w' => e = .returned .nilIface ∧ w = w' := by
  go_enter Tryd.func23, Tryd.ntmps23
  go_wp2
  go_ret
  exact ⟨rfl, rfl⟩

set_option maxHeartbeats 1000000 in
theorem wrap_some (v : Value) (is : List Item) (part : ByteArray) (pos : Int) (w : World) (hch : Chain w.heap.size w v is) (hv : v ≠ .nilIface) (hg : EType w) :
    Calls Tryd.prog 23 #[v, .string part, .int .i64 pos] w (MadePost (codeOf v is) part pos is w) := by
  have HC := Lib.hid (code_any v is w hch hg)
  obtain ⟨T, x, hx⟩ := hch.iface hv
  have hE := fun W => run_eql_held_nil (P := Tryd.prog) W 27 T x (by kernel_rfl)
  have F := Lib.hid (fun w1 (hb : Below w.heap.size w w1) => made_of (c := codeOf v is) (part := part) (pos := pos) hb hch)
  subst hx
  clear hv hch hg
  go_enter Tryd.func23, Tryd.ntmps23
  go_wp2_with (go_at_call 18; refine HC.out.mono ?_; rintro e w' ⟨rfl, hb⟩)
  go_ret
  exact F.out _ hb

set_option maxHeartbeats 1000000 in
theorem turn_nil (c : Int) (part : ByteArray) (pos : Int) (w : World) :
    Calls Tryd.prog 38 #[.nilIface, .int .i64 c, .string part, .int .i64 pos] w fun e w' => e = .returned .nilIface ∧ w = w' := by
  go_enter Tryd.func38, Tryd.ntmps38
  go_wp2
  go_ret
  exact ⟨rfl, rfl⟩

set_option maxHeartbeats 1000000 in
theorem turn_zero (v : Value) (is : List Item) (part : ByteArray) (pos : Int) (w : World) (hch : Chain w.heap.size w v is) (hv : v ≠ .nilIface) (hg : EType w) :
    Calls Tryd.prog 38 #[v, .int .i64 0, .string part, .int .i64 pos] w (MadePost (codeOf v is) part pos is w) := by
  have HW := Lib.hid (wrap_some v is part pos w hch hv hg)
  obtain ⟨T, x, hx⟩ := hch.iface hv
  have hE := fun W => run_eql_held_nil (P := Tryd.prog) W 27 T x (by kernel_rfl)
  subst hx
  clear hv hch hg
  go_enter Tryd.func38, Tryd.ntmps38
  go_wp2_with (go_at_call 23; refine HW.out.mono ?_; rintro e w' ⟨b, hlb, rfl, hb⟩)
  go_ret
  exact ⟨b, hlb, rfl, hb⟩

set_option maxHeartbeats 1000000 in
theorem turn_some (c : Int) (v : Value) (is : List Item) (part : ByteArray) (pos : Int) (w : World) (hch : Chain w.heap.size w v is) (hv : v ≠ .nilIface) (hc : (c == 0) = false) :
    Calls Tryd.prog 38 #[v, .int .i64 c, .string part, .int .i64 pos] w (MadePost c part pos is w) := by
  obtain ⟨T, x, hx⟩ := hch.iface hv
  have hE := fun W => run_eql_held_nil (P := Tryd.prog) W 27 T x (by kernel_rfl)
  have F := Lib.hid (made_of (c := c) (part := part) (pos := pos) (Below.refl w.heap.size w) hch)
  subst hx
  clear hv hch
  go_enter Tryd.func38, Tryd.ntmps38
  go_wp2
  go_ret
  exact F.out
end Go.Proofs.YtnddojngbolbfaaDoor
