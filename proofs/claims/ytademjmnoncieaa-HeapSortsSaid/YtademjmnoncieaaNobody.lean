/-
  The law HeapNobody.
  Conditions: none.
-/
import Derived.Test.YtademjmnoncieaaAwake
set_option linter.unusedVariables false
namespace Go.Proofs.Ytademjmnoncieaa
open Go.RowKit

/-- What a law answers. -/
def Ans (w : World) (e : Ending) (w' : World) : Prop := e = .returned (.bool true) ∧ Below w.heap.size w w'

theorem Bare.keep {W W' : World} {hb : Nat} (h : Bare W hb) (hk : Below W.heap.size W W') : Bare W' hb := (hk.block hb (heap_lt h)).trans h

set_option maxRecDepth 100000 in
set_option maxHeartbeats 16000000 in
theorem nobody_law (id nu de : Int) (W : World) : Calls Try.prog 5 #[.int .i64 id, .int .u64 nu, .int .u64 de] W (Ans W) := by
  go_enter Try.func5, Try.ntmps5
  go_wp2_with fail
  generalize hw1 : W.alloc (Obj.cells #[Value.slice none 0 0, Value.slice none 0 0] 53) = w1
  have B1 : Bare w1 W.heap.size := by rw [← hw1]; exact heap_alloc_new W _
  have E1 : Below W.heap.size W w1 := by rw [← hw1]; exact (Below.refl _ _).alloc (Nat.le_refl _) _
  clear hw1
  have HB := Lib.hid B1
  have HE := Lib.hid E1
  clear B1 E1
  generalize hz : W.heap.size = hb at HB HE ⊢
  have HZ := Lib.hid hz
  clear hz
  refine (min_none w1 _ (len_nil w1)).mono ?_
  rintro e w ⟨rfl, rfl⟩
  go_wp2_with fail
  refine (pop_none w1 _ (len_bare w1 hb HB.out)).mono ?_
  rintro e w ⟨rfl, rfl⟩
  go_wp2_with fail
  refine (key_none w1 _ id (has_nil w1 id)).mono ?_
  rintro e w2 ⟨rfl, h2⟩
  simp only [keyNone]
  have HB2 := Lib.hid (HB.out.keep h2)
  have HE2 := Lib.hid (HE.out.trans (h2.mono (by have := heap_lt HB.out; omega)))
  clear h2
  go_wp2_with fail
  refine (key_none w2 _ id (has_bare w2 hb id HB2.out)).mono ?_
  rintro e w3 ⟨rfl, h3⟩
  simp only [keyNone]
  have HB3 := Lib.hid (HB2.out.keep h3)
  have HE3 := Lib.hid (HE2.out.trans (h3.mono (by have := heap_lt HB2.out; omega)))
  clear h3
  go_wp2_with fail
  refine (put_nil w3 id nu de).mono ?_
  rintro e w ⟨rfl, rfl⟩
  go_wp2_with fail
  refine (put_bare w3 hb id nu de HB3.out).mono ?_
  rintro e w ⟨rfl, rfl⟩
  go_wp2_with fail
  refine (remove_not w3 _ id (has_nil w3 id)).mono ?_
  rintro e w ⟨rfl, rfl⟩
  go_wp2_with fail
  refine (remove_not w3 _ id (has_bare w3 hb id HB3.out)).mono ?_
  rintro e w ⟨rfl, rfl⟩
  go_wp2_with fail
  refine (len_nil w3).mono ?_
  rintro e w ⟨rfl, rfl⟩
  go_wp2_with fail
  refine (len_bare w3 hb HB3.out).mono ?_
  rintro e w ⟨rfl, rfl⟩
  go_wp2_with fail
  refine (awake_any w3).mono ?_
  rintro e w4 ⟨rfl, h4⟩
  have HE4 := Lib.hid (HE3.out.trans (h4.mono (by have := heap_lt HB3.out; omega)))
  clear h4
  go_wp2_with fail
  go_ret
  exact ⟨rfl, by rw [HZ.out]; exact HE4.out⟩
end Go.Proofs.Ytademjmnoncieaa
