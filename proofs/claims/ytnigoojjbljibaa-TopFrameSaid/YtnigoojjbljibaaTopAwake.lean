/-
  The page's examples, run.
  Conditions: none.
-/
import Derived.Test.YtnigoojjbljibaaAwake
import Derived.Test.YtnigoojjbljibaaTurn
set_option linter.unusedVariables false
namespace Go.Proofs.Ytnigoojjbljibaa
open Go.RowKit

theorem ex_round (W : World) : Calls Try.prog 6 #[.int .i64 10, .int .i64 8, .int .i64 4] W (RetB (.int .u64 771) W) := by
  have h := round_any 10 8 4 W
  rw [show ((roundN (frN 10) (frN 4) (modN 8 (frN 10)) : Nat) : Int) = 771 by decide +kernel] at h
  exact h

set_option maxRecDepth 100000 in
set_option maxHeartbeats 1000000 in
theorem begins_any (w : World) : Calls Try.prog 5 #[] w (Ans w) := by
  have b1 := Lib.hid (show ∀ W : World, IntsAt (W.alloc (.cells #[.int .i64 1, .int .i64 1, .int .i64 1] 3)) (.slice (some ⟨W.heap.size, 0, none⟩) 3 3) [1, 1, 1] from fun W => built W [1, 1, 1] #[.int .i64 1, .int .i64 1, .int .i64 1] rfl (by decide))
  have b5 := Lib.hid (show ∀ W : World, IntsAt (W.alloc (.cells #[.int .i64 4, .int .i64 3, .int .i64 3] 3)) (.slice (some ⟨W.heap.size, 0, none⟩) 3 3) [4, 3, 3] from fun W => built W [4, 3, 3] #[.int .i64 4, .int .i64 3, .int .i64 3] rfl (by decide))
  have al := Lib.hid (fun (W : World) (o : Obj) => (Below.refl W.heap.size W).alloc (Nat.le_refl _) o)
  go_enter Try.func5, Try.ntmps5
  go_wp2_with fail
  refine (ex_largest _ _ (b1.out w)).mono ?_
  rintro e w1 ⟨v1, rfl, hi1, hb1⟩
  have HI1 := Lib.hid hi1
  have HB1 := Lib.hid ((al.out w _).trans (hb1.mono (al.out w _).size))
  clear hi1 hb1
  go_wp2_with fail
  refine (ex_same [4, 3, 3] _ _ _ (HI1.out.keep (al.out _ _)) (b5.out w1)).mono ?_
  rintro e w2 ⟨rfl, hb2⟩
  have HB2 := Lib.hid (HB1.out.trans (((al.out w1 _).trans (hb2.mono (al.out w1 _).size)).mono HB1.out.size))
  clear hb2
  go_wp2_with fail
  refine (ex_round _).mono ?_
  rintro e w3 ⟨rfl, hb3⟩
  go_wp2_with fail
  go_ret
  exact ⟨rfl, HB2.out.trans (hb3.mono HB2.out.size)⟩
end Go.Proofs.Ytnigoojjbljibaa
