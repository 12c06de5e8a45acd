/-
  A row of ints that the call made: read, stored into, kept; a call in a region that draws.
  Conditions: none.
-/
import Derived.Test.YtpjmdnhoiobedaaInts
import Derived.Laws.MakeOwn
import Derived.Laws.Rows
import Derived.OpenShut
set_option linter.unusedVariables false
namespace Go.Proofs.Ytpjmdnhoiobedaa
open Go.RowKit

/-- All 0. -/
def zeros (n : Nat) : List Int := List.replicate n 0

def rowOf (xs : List Int) : Array Value := (xs.map (Value.int .i64)).toArray
/-- Block g is just the numbers xs, none frozen. -/
def RowAt (W : World) (g : Nat) (xs : List Int) : Prop := W.heap[g]? = some (.cells (rowOf xs) 3 (0, 0))

theorem rowOf_get (xs : List Int) (j : Nat) : (rowOf xs)[j]? = (xs[j]?).map (Value.int .i64) := by simp [rowOf]
theorem rowOf_set (xs : List Int) (j : Nat) (x : Int) : (rowOf xs).setIfInBounds j (.int .i64 x) = rowOf (xs.set j x) := by
  simp [rowOf, List.map_set]

theorem RowAt.lt {W : World} {g : Nat} {xs : List Int} (h : RowAt W g xs) : g < W.heap.size := by
  rcases Nat.lt_or_ge g W.heap.size with hlt | hge
  · exact hlt
  · unfold RowAt at h; rw [Array.getElem?_eq_none hge] at h; cases h
theorem RowAt.cell {W : World} {g : Nat} {xs : List Int} (h : RowAt W g xs) {j : Nat} {x : Int} (hx : xs[j]? = some x) : W.cell? ⟨g, j, none⟩ = some (.int .i64 x) := by
  rw [cell_of_row W g j _ _ (0, 0) h, rowOf_get, hx]; rfl
theorem RowAt.frozen {W : World} {g : Nat} {xs : List Int} (h : RowAt W g xs) (j : Nat) : W.frozen? ⟨g, j, none⟩ = false := by
  unfold RowAt at h
  simp [World.frozen?, h]
theorem RowAt.drewN {W : World} {g : Nat} {xs : List Int} (h : RowAt W g xs) (n : Nat) : RowAt (W.drewN n) g xs := h
theorem RowAt.alloc {W : World} {g : Nat} {xs : List Int} (h : RowAt W g xs) (o : Obj) : RowAt (W.alloc o) g xs := (Below.heap_alloc W o g h.lt).trans h
theorem RowAt.set_ {W : World} {g : Nat} {xs : List Int} (h : RowAt W g xs) (j : Nat) (x : Int) : RowAt (W.setCell ⟨g, j, none⟩ (.int .i64 x)) g (xs.set j x) := by
  unfold RowAt at h ⊢
  rw [← rowOf_set]
  simp [World.setCell, Array.getElem?_modify, h]
theorem RowAt.far {W : World} {g : Nat} {xs : List Int} (h : RowAt W g xs) {p : Addr} (hp : g ≠ p.block) (u : Value) : RowAt (W.setCell p u) g xs := (Below.heap_setCell W p u g hp).trans h
theorem RowAt.below {B : Nat} {W W' : World} {g : Nat} {xs : List Int} (h : RowAt W g xs) (hb : Below B W W') (hg : g < B) : RowAt W' g xs := (hb.block g hg).trans h
theorem RowAt.ints {W : World} {g : Nat} {xs : List Int} (h : RowAt W g xs) (hl : xs.length ≤ 9223372036854775807) (c : Nat) : IntsAt W (.slice (some ⟨g, 0, none⟩) xs.length c) xs :=
  ⟨_, _, rfl, hl, fun _ => ⟨g, 0, rfl, h.lt, fun j x hx => by rw [Nat.zero_add]; exact h.cell hx⟩⟩

theorem madeCells_one (z : Value) (n : Nat) : madeCells #[z] n = (List.replicate n z).toArray := by
  apply Array.toList_inj.1
  rw [List.toList_toArray]
  apply List.ext_getElem?
  intro j
  by_cases hj : j < n
  · simp [madeCells, hj, Nat.mod_one]
  · simp [madeCells, hj]

/-- make([]int, n). -/
theorem mk_ints (W : World) (n : Nat) (h : n ≤ 1000) : (Instr.makeSlice 35 (.int .i64 (n : Int)) (.int .i64 (n : Int))).run Try.prog W = .ok (.slice (some ⟨W.heap.size, 0, none⟩) n n) (W.alloc (.cells (rowOf (zeros n)) 3)) := by
  obtain ⟨i, hi, e⟩ := Option.map_eq_some_iff.1 Try.infoInt
  simp only [Prod.mk.injEq] at e
  obtain ⟨e1, e2, e3⟩ := e
  have hr := run_make (P := Try.prog) W 35 3 i (.int .i64 0) Try.underlying35 hi e1 .i64 .i64 n n (by omega) (Int.le_refl _) (by rw [e3]; omega) (by omega)
  rw [hr, e2]
  simp only [Int.toNat_natCast, Nat.mul_one]
  rw [show (Value.int .i64 0).cells = #[.int .i64 0] from rfl, madeCells_one]
  simp [rowOf, zeros]

theorem quiet_ret {P : Program} {f : FuncId} {args : Array Value} {w : World} {n : Nat} {v : Value} (h : Calls P f args (w.drewN n) (Ret v (w.drewN n))) :
    Calls P f args (w.drewN n) fun e w'' => e = .returned v ∧ ∃ m, w'' = w.drewN m := h.mono fun _ _ ⟨he, hm⟩ => ⟨he, n, hm.symm⟩

theorem RowAt.new (W : World) (xs : List Int) : RowAt (W.alloc (.cells (rowOf xs) 3)) W.heap.size xs := heap_alloc_new W _
theorem rowAt_pushed {W W' : World} {xs : List Int} (h : W' = W.alloc (.cells (rowOf xs) 3)) : RowAt W' W.heap.size xs := by subst h; exact RowAt.new W xs
end Go.Proofs.Ytpjmdnhoiobedaa
