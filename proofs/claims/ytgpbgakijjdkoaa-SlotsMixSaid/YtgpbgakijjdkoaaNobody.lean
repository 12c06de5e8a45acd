/-
  The law SlotsNobody.
  Conditions: none.
-/
import Derived.Test.YtgpbgakijjdkoaaAwake
import Derived.Test.YtgpbgakijjdkoaaIds
set_option linter.unusedVariables false
namespace Go.Proofs.Ytgpbgakijjdkoaa
open Go.RowKit TI

/-- What a law answers. -/
def Ans (w : World) (e : Ending) (w' : World) : Prop := e = .returned (.bool true) ∧ Below w.heap.size w w'

set_option maxRecDepth 100000 in
set_option maxHeartbeats 16000000 in
theorem nobody_law (id g x : Int) (W : World) : Calls Try.prog 5 #[.int .i64 id, .int .i64 g, .int .i64 x] W (Ans W) := by
  go_enter Try.func5, Try.ntmps5
  go_wp2_with fail
  generalize hw1 : W.alloc (Obj.cells #[Value.int IntKind.i64 0, Value.slice none 0 0, Value.slice none 0 0] 56) = w1
  have B1 : Bare w1 W.heap.size := by rw [← hw1]; exact heap_alloc_new W _
  have E1 : Below W.heap.size W w1 := by rw [← hw1]; exact (Below.refl _ _).alloc (Nat.le_refl _) _
  clear hw1
  have HB := Lib.hid B1
  have HE := Lib.hid E1
  clear B1 E1
  generalize hz : W.heap.size = tb at HB HE ⊢
  have HZ := Lib.hid hz
  clear hz
  refine (take_nil w1 x).mono ?_
  rintro e w ⟨rfl, rfl⟩
  go_wp2_with fail
  refine (take_bare w1 tb x HB.out).mono ?_
  rintro e w ⟨rfl, rfl⟩
  go_wp2_with fail
  refine (get_none w1 _ id g (find_none w1 _ id (inUse_nil w1 id))).mono ?_
  rintro e w2 ⟨rfl, h2⟩
  simp only [getNone]
  have HB2 := Lib.hid (HB.out.keep h2)
  have HE2 := Lib.hid (HE.out.trans (h2.mono (by have := heap_lt HB.out; omega)))
  clear h2
  go_wp2_with fail
  refine (find_none w2 _ id (inUse_bare w2 tb id HB2.out)).mono ?_
  rintro e w3 ⟨rfl, h3⟩
  simp only [findNone]
  have HB3 := Lib.hid (HB2.out.keep h3)
  have HE3 := Lib.hid (HE2.out.trans (h3.mono (by have := heap_lt HB2.out; omega)))
  clear h3
  go_wp2_with fail
  refine (set_nil w3 id x).mono ?_
  rintro e w ⟨rfl, rfl⟩
  go_wp2_with fail
  refine (drop_bare w3 tb id g HB3.out).mono ?_
  rintro e w ⟨rfl, rfl⟩
  go_wp2_with fail
  refine (ids_nil w3).mono ?_
  rintro e w ⟨rfl, rfl⟩
  go_wp2_with fail
  refine (len_bare w3 tb HB3.out).mono ?_
  rintro e w4 ⟨rfl, h4⟩
  have HB4 := Lib.hid (HB3.out.keep h4)
  have HE4 := Lib.hid (HE3.out.trans (h4.mono (by have := heap_lt HB3.out; omega)))
  clear h4
  go_wp2_with fail
  refine (awake_any w4).mono ?_
  rintro e w5 ⟨rfl, h5⟩
  have HE5 := Lib.hid (HE4.out.trans (h5.mono (by have := heap_lt HB4.out; omega)))
  clear h5
  go_wp2_with fail
  go_ret
  exact ⟨rfl, by rw [HZ.out]; exact HE5.out⟩
end Go.Proofs.Ytgpbgakijjdkoaa
