/-
  The page's example.
  Conditions: none.
-/
import Derived.Test.YtngfcgegondmgaaHeld
set_option linter.unusedVariables false
namespace Go.Proofs.Ytngfcgegondmgaa
open Go.RowKit

def wantsE : List Sp := [(2, 1), (1, 2)]
def stE : Nat → List Lm
  | 0 => newT wantsE
  | k + 1 => pickT (offB []) (stE k)
theorem newE_ex : newE 4 wantsE = 0 := by decide
theorem ints_ex : IntsS wantsE := by
  intro s hs
  simp [wantsE] at hs
  rcases hs with rfl | rfl <;> exact ⟨by decide, by decide⟩
theorem okE : ∀ k, OkL k (stE k)
  | 0 => new_okL newE_ex
  | k + 1 => (okE k).pick _
theorem exV0 : pickV (nextT (offB []) (stE 0)) = .tuple #[.int .i64 1, .bool true] := rfl
theorem exV1 : pickV (nextT (offB []) (stE 1)) = .tuple #[.int .i64 1, .bool true] := rfl
theorem exV2 : pickV (nextT (offB []) (stE 2)) = .tuple #[.int .i64 2, .bool true] := rfl
theorem exV3 : pickV (nextT (offB [1, 2]) (stE 3)) = .tuple #[.int .i64 0, .bool false] := rfl
theorem exG : gotV (gotN (pickT (offB [1, 2]) (stE 3)) 1) = .tuple #[.int .i64 2, .bool true] := rfl
theorem exT : sumS (pickT (offB [1, 2]) (stE 3)) = 3 := rfl

set_option maxRecDepth 100000 in
set_option maxHeartbeats 2000000 in
theorem awake_any (W : World) : Calls Try.prog 10 #[] W (RetB (.bool true) W) := by
  have hL : Below W.heap.size W (W.alloc (.cells #[.int .i64 2, .int .i64 1, .int .i64 1, .int .i64 2] 50)) := (Below.refl _ _).alloc (Nat.le_refl _) _
  have HL := Lib.hid hL
  have HN : Hid (Calls Try.prog 8 #[.int .i64 4, .slice (some ⟨W.heap.size, 0, none⟩) 2 2] (W.alloc (.cells #[.int .i64 2, .int .i64 1, .int .i64 1, .int .i64 2] 50)) (NewPost (W.alloc (.cells #[.int .i64 2, .int .i64 1, .int .i64 1, .int .i64 2] 50)) (stE 0))) :=
    new_ok 4 _ wantsE _ (lit_spans W wantsE 50 (by decide)) ints_ex newE_ex
  have HSZ : Hid (W.heap.size ≤ (W.alloc (.cells #[.int .i64 2, .int .i64 1, .int .i64 1, .int .i64 2] 50)).heap.size) := hL.size
  obtain ⟨w1, hw1⟩ : ∃ w1, W.alloc (.cells #[.int .i64 2, .int .i64 1, .int .i64 1, .int .i64 2] 50) = w1 := ⟨_, rfl⟩
  rw [hw1] at HL HN HSZ
  clear hL
  go_enter Try.func10, Try.ntmps10
  go_wp2_with fail
  refine HN.out.mono ?_
  rintro e w2 ⟨rb, rfl, hh, hb⟩
  have HB2 := Lib.hid (HL.out.trans (hb.mono HSZ.out))
  have H2 := Lib.hid hh
  have H2' := Lib.hid (Held.pick hh (okE 0) (by decide) (IntsAt.nil w2))
  rw [exV0] at H2'
  clear hh hb hw1
  go_wp2_with fail
  refine H2'.out.mono ?_
  rintro e w3 ⟨rfl, hh, hb⟩
  have HB3 := Lib.hid (HB2.out.trans (hb.mono HSZ.out))
  have H3' := Lib.hid (Held.pick (l := stE 1) hh (okE 1) (by decide) (IntsAt.nil w3))
  rw [exV1] at H3'
  clear hh hb
  go_wp2_with fail
  refine H3'.out.mono ?_
  rintro e w4 ⟨rfl, hh, hb⟩
  have HB4 := Lib.hid (HB3.out.trans (hb.mono HSZ.out))
  have H4' := Lib.hid (Held.pick (l := stE 2) hh (okE 2) (by decide) (IntsAt.nil w4))
  rw [exV2] at H4'
  clear hh hb
  go_wp2_with fail
  refine H4'.out.mono ?_
  rintro e w5 ⟨rfl, hh, hb⟩
  have HB5 := Lib.hid (HB4.out.trans (hb.mono HSZ.out))
  have hb6 : Below w5.heap.size w5 (w5.alloc (.cells #[.int .i64 1, .int .i64 2] 3)) := (Below.refl _ _).alloc (Nat.le_refl _) _
  have H5' : Hid (Calls Try.prog 12 #[.pointer (some ⟨rb, 0, none⟩), .slice (some ⟨w5.heap.size, 0, none⟩) 2 2] (w5.alloc (.cells #[.int .i64 1, .int .i64 2] 3)) (HeldPost w1.heap.size (pickV (nextT (offB [1, 2]) (stE 3))) rb (pickT (offB [1, 2]) (stE 3)) (w5.alloc (.cells #[.int .i64 1, .int .i64 2] 3)))) :=
    Held.pick (l := stE 3) (hh.below hb6) (okE 3) (by decide) (lit_ints w5 [1, 2] 3 (by decide))
  rw [exV3] at H5'
  have HB6 := Lib.hid (HB5.out.trans (hb6.mono HB5.out.size))
  clear hh hb hb6
  go_wp2_with fail
  refine H5'.out.mono ?_
  rintro e w7 ⟨rfl, hh, hb⟩
  have HB7 := Lib.hid (HB6.out.trans (hb.mono HSZ.out))
  have H7 := Lib.hid (Held.got 1 hh (by decide))
  rw [exG] at H7
  clear hb hh
  go_wp2_with fail
  refine H7.out.mono ?_
  rintro e w8 ⟨rfl, hh, hb⟩
  have HB8 := Lib.hid (HB7.out.trans (hb.mono HSZ.out))
  have H8 : Hid (Calls Try.prog 21 #[.pointer (some ⟨rb, 0, none⟩)] w8 (HeldPost w1.heap.size (.int .i64 3) rb (pickT (offB [1, 2]) (stE 3)) w8)) :=
    Held.total hh ((okE 3).pick _)
  clear hb hh
  go_wp2_with fail
  refine H8.out.mono ?_
  rintro e w9 ⟨rfl, hh, hb⟩
  have HB9 := Lib.hid (HB8.out.trans (hb.mono HSZ.out))
  clear hb hh
  go_wp2
  go_ret
  exact ⟨rfl, HB9.out⟩
end Go.Proofs.Ytngfcgegondmgaa
