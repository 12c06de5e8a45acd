/-
  The page's example.
  Conditions: none.
-/
import Derived.Test.YtgpbgakijjdkoaaHeldS
set_option linter.unusedVariables false
namespace Go.Proofs.Ytgpbgakijjdkoaa
open Go.RowKit TS

abbrev strA : ByteArray := ByteArray.mk #[97]
abbrev strB : ByteArray := ByteArray.mk #[98]
abbrev strC : ByteArray := ByteArray.mk #[99]
def e0 : Ts ByteArray := newT 2 (ByteArray.mk #[])
def e1 : Ts ByteArray := takeNew e0 strA
def e2 : Ts ByteArray := takeNew e1 strB
def e3 : Ts ByteArray := dropT e2 0 (ByteArray.mk #[])
def e4 : Ts ByteArray := takeOld e3 strC
theorem e0_ok : Okay e0 := newT_okay 2 _ (by decide) (by decide)
theorem e1_ok : Okay e1 := e0_ok.new strA rfl (by decide)
theorem e2_ok : Okay e2 := e1_ok.new strB rfl (by decide)
theorem e3_ok : Okay e3 := e2_ok.drop _ (by decide) rfl
theorem e4_ok : Okay e4 := e3_ok.old strC (by decide)
theorem e4_get2 : getV e4 1 2 = .tuple #[.string strC, .bool true] := if_pos ⟨rfl, rfl⟩
theorem e4_get1 : getV e4 1 1 = getNone := if_neg (fun h => by have := h.2; revert this; decide)

set_option maxRecDepth 100000 in
set_option maxHeartbeats 16000000 in
theorem awake_any (W : World) : Calls Try.prog 7 #[] W (RetB (.bool true) W) := by
  have HNEW := Lib.hid (new_ok W 2 (by decide) (by decide))
  go_enter Try.func7, Try.ntmps7
  go_wp2_with fail
  refine HNEW.out.mono ?_
  rintro e w1 hnew
  have K1 := Lib.hid (show Held W.heap.size W w1 W.heap.size (.slice none 0 0) (.slice none 0 0) e0 from Held.new (W0 := W) (by decide) (by decide) (Below.refl W.heap.size W) (Nat.le_refl _) hnew)
  obtain ⟨rfl, _, _⟩ := hnew
  obtain ⟨tb, htb⟩ : ∃ tb, W.heap.size = tb := ⟨_, rfl⟩
  rw [htb] at K1 ⊢
  have HTB := Lib.hid htb
  generalize Value.slice none 0 0 = sv1 at K1
  clear htb HNEW
  have P1 := Lib.hid (show Calls Try.prog _ _ _ (MutPost w1 tb sv1 sv1 (.tuple #[.int .i64 1, .int .i64 1, .int .i64 0]) e1) from take_new w1 tb sv1 sv1 e0 strA K1.out.lies e0_ok rfl (by decide))
  go_wp2_with fail
  refine P1.out.mono ?_
  rintro e w2 hm
  obtain ⟨sv2, fv2, rfl, hh, _⟩ := K1.out.mut e1_ok hm
  have K2 := Lib.hid hh
  clear hm hh P1 K1
  have P2 := Lib.hid (show Calls Try.prog _ _ _ (MutPost w2 tb sv2 fv2 (.tuple #[.int .i64 2, .int .i64 1, .int .i64 0]) e2) from take_new w2 tb sv2 fv2 e1 strB K2.out.lies e1_ok rfl (by decide))
  go_wp2_with fail
  refine P2.out.mono ?_
  rintro e w3 hm
  obtain ⟨sv3, fv3, rfl, hh, _⟩ := K2.out.mut e2_ok hm
  have K3 := Lib.hid hh
  clear hm hh P2 K2
  have P3 := Lib.hid (show Calls Try.prog 23 #[.pointer (some ⟨tb, 0, none⟩), .int .i64 1, .int .i64 1] w3 (MutPost w3 tb sv3 fv3 (.int .i64 0) e3) from drop_ok w3 tb sv3 fv3 e2 0 K3.out.lies (by decide) (by decide) (by decide) (by decide) rfl (by decide))
  go_wp2_with fail
  refine P3.out.mono ?_
  rintro e w4 hm
  obtain ⟨sv4, fv4, rfl, hh, _⟩ := K3.out.mut e3_ok hm
  have K4 := Lib.hid hh
  clear hm hh P3 K3
  have P4 := Lib.hid (show Calls Try.prog _ _ _ (MutPost w4 tb sv4 fv4 (.tuple #[.int .i64 1, .int .i64 2, .int .i64 0]) e4) from take_old w4 tb sv4 fv4 e3 strC K4.out.lies e3_ok (by decide))
  go_wp2_with fail
  refine P4.out.mono ?_
  rintro e w5 hm
  obtain ⟨sv5, fv5, rfl, hh, _⟩ := K4.out.mut e4_ok hm
  have K5 := Lib.hid hh
  clear hm hh P4 K4
  have Q1 := get_any w5 tb sv5 fv5 e4 1 2 K5.out.lies (by decide)
  rw [e4_get2] at Q1
  have Q1 := Lib.hid Q1
  go_wp2_with fail
  refine Q1.out.mono ?_
  rintro e w6 ⟨rfl, h6⟩
  have K6 := Lib.hid (K5.out.below h6)
  have Q2 := get_any w6 tb sv5 fv5 e4 1 1 K6.out.lies (by decide)
  rw [e4_get1] at Q2
  have Q2 := Lib.hid Q2
  clear h6 Q1 K5
  go_wp2_with fail
  refine Q2.out.mono ?_
  rintro e w7 ⟨rfl, h7⟩
  simp only [getNone]
  have K7 := Lib.hid (K6.out.below h7)
  have Q3 := Lib.hid (show Calls Try.prog _ _ _ (RetB (.int .i64 2) w7) from len_any w7 tb sv5 fv5 e4 K7.out.lies (by decide) 2 rfl)
  clear h7 Q2 K6
  go_wp2_with fail
  refine Q3.out.mono ?_
  rintro e w8 ⟨rfl, h8⟩
  have K8 := Lib.hid (K7.out.below h8)
  clear h8 Q3 K7
  go_wp2_with fail
  go_ret
  exact ⟨rfl, by rw [HTB.out]; exact K8.out.bel⟩
end Go.Proofs.Ytgpbgakijjdkoaa
