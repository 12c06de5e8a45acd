/-
  The law of a local that nobody made.
  Conditions: none.
-/
import Derived.Test.YtngfcgegondmgaaAwake
set_option linter.unusedVariables false
namespace Go.Proofs.Ytngfcgegondmgaa
open Go.RowKit

theorem ok_none : OkL 0 [] := ⟨List.Pairwise.nil, fun m hm => (by cases hm), fun m hm => (by cases hm), Nat.zero_le _, fun m hm => (by cases hm)⟩
theorem held_bare (W : World) : Held W.heap.size (W.alloc (.cells #[.slice none 0 0] 62)) W.heap.size [] :=
  ⟨.slice none 0 0, Bare.at_ (heap_alloc_new W _), fun k hk => by
    rcases hk with rfl | hk
    · exact Nat.le_refl _
    · cases hk⟩

set_option maxRecDepth 100000 in
set_option maxHeartbeats 2000000 in
theorem nobody_law (u : Int) (W : World) : Calls Try.prog 7 #[.int .i64 u] W (RetB (.bool true) W) := by
  have HA := Lib.hid (fun W => awake_any W)
  have HP0 := Lib.hid (fun W ov => pick_nil W ov)
  have HG0 := Lib.hid (fun W u => got_nil W u)
  have HD0 := Lib.hid (fun W u => drop_nil W u)
  have HW0 := Lib.hid (fun W => wants_nil W)
  have HT0 := Lib.hid (fun W => total_nil W)
  have HB0 := Lib.hid (fun W => begin_nil W)
  have hb1 : Below W.heap.size W (W.alloc (.cells #[.slice none 0 0] 62)) := (Below.refl _ _).alloc (Nat.le_refl _) _
  have hz := held_bare W
  obtain ⟨w1, hw1⟩ : ∃ w1, W.alloc (.cells #[.slice none 0 0] 62) = w1 := ⟨_, rfl⟩
  obtain ⟨rb, hrb⟩ : ∃ rb, W.heap.size = rb := ⟨_, rfl⟩
  rw [hw1] at hb1 hz
  rw [hrb] at hb1 hz
  have HR := Lib.hid hrb
  have HB1 := Lib.hid hb1
  have HZ := Lib.hid hz
  clear hb1 hz
  go_enter Try.func7, Try.ntmps7
  go_wp2_with fail
  refine (HB0.out _).mono ?_
  rintro e w2 ⟨rfl, hb⟩
  have HB2 := Lib.hid (HB1.out.trans (hb.mono HZ.out.lies.1))
  have H2 := Lib.hid (Held.begin_ (HZ.out.below hb) (by decide))
  clear hb hw1 hrb
  go_wp2_with fail
  refine H2.out.mono ?_
  rintro e w3 ⟨rfl, hh, hb⟩
  have HB3 := Lib.hid (HB2.out.trans hb)
  have hb4 : Below w3.heap.size w3 (w3.alloc (.cells #[.int .i64 u] 3)) := (Below.refl _ _).alloc (Nat.le_refl _) _
  have HZ4 := Lib.hid (hh.below hb4)
  have HB4 := Lib.hid (HB3.out.trans (hb4.mono hh.lies.1))
  clear hb hh hb4
  go_wp2_with fail
  refine (HP0.out _ _).mono ?_
  rintro e w5 ⟨rfl, hb⟩
  have HZ5 := Lib.hid (HZ4.out.below hb)
  have HB5 := Lib.hid (HB4.out.trans (hb.mono HZ4.out.lies.1))
  have H5 : Hid (Calls Try.prog 12 #[.pointer (some ⟨rb, 0, none⟩), .slice none 0 0] w5 (HeldPost rb (.tuple #[.int .i64 0, .bool false]) rb [] w5)) := Held.pick HZ5.out ok_none (by decide) (IntsAt.nil w5)
  clear hb
  go_wp2_with fail
  refine H5.out.mono ?_
  rintro e w6 ⟨rfl, hh, hb⟩
  have HZ6 := Lib.hid hh
  have HB6 := Lib.hid (HB5.out.trans hb)
  clear hh hb
  go_wp2_with fail
  refine (HG0.out _ _).mono ?_
  rintro e w7 ⟨rfl, hb⟩
  have HZ7 := Lib.hid (HZ6.out.below hb)
  have HB7 := Lib.hid (HB6.out.trans (hb.mono HZ6.out.lies.1))
  have H7 : Hid (Calls Try.prog 22 #[.pointer (some ⟨rb, 0, none⟩), .int .i64 u] w7 (HeldPost rb (.tuple #[.int .i64 0, .bool false]) rb [] w7)) := Held.got u HZ7.out (by decide)
  clear hb
  go_wp2_with fail
  refine H7.out.mono ?_
  rintro e w8 ⟨rfl, hh, hb⟩
  have HZ8 := Lib.hid hh
  have HB8 := Lib.hid (HB7.out.trans hb)
  clear hh hb
  go_wp2_with fail
  refine (HD0.out _ _).mono ?_
  rintro e w9 ⟨rfl, hb⟩
  have HZ9 := Lib.hid (HZ8.out.below hb)
  have HB9 := Lib.hid (HB8.out.trans (hb.mono HZ8.out.lies.1))
  have H9 : Hid (Calls Try.prog 17 #[.pointer (some ⟨rb, 0, none⟩), .int .i64 u] w9 (HeldPost rb (.bool false) rb [] w9)) := Held.drop_ u HZ9.out ok_none
  clear hb
  go_wp2_with fail
  refine H9.out.mono ?_
  rintro e w10 ⟨rfl, hh, hb⟩
  have HZ10 := Lib.hid hh
  have HB10 := Lib.hid (HB9.out.trans hb)
  clear hh hb
  go_wp2_with fail
  refine (HW0.out _).mono ?_
  rintro e w10' ⟨rfl, rfl⟩
  have H10 := Lib.hid (Held.wants HZ10.out (by decide))
  go_wp2_with fail
  refine H10.out.mono ?_
  rintro e w11 ⟨v, rfl, hs, hh, hb⟩
  have HZ11 := Lib.hid hh
  have HB11 := Lib.hid (HB10.out.trans (hb.mono HZ10.out.lies.1))
  obtain ⟨A, c, rfl, _, _, _, _⟩ := hs
  have hlen : (wantsT []).length = 0 := rfl
  rw [hlen]
  clear hh hb hlen
  go_wp2_with fail
  refine (HT0.out _).mono ?_
  rintro e w12 ⟨rfl, hb⟩
  have HZ12 := Lib.hid (HZ11.out.below hb)
  have HB12 := Lib.hid (HB11.out.trans (hb.mono HZ11.out.lies.1))
  have H12 : Hid (Calls Try.prog 21 #[.pointer (some ⟨rb, 0, none⟩)] w12 (HeldPost rb (.int .i64 0) rb [] w12)) := Held.total HZ12.out ok_none
  clear hb
  go_wp2_with fail
  refine H12.out.mono ?_
  rintro e w13 ⟨rfl, hh, hb⟩
  have HZ13 := Lib.hid hh
  have HB13 := Lib.hid (HB12.out.trans hb)
  clear hh hb
  go_wp2_with fail
  refine (HA.out _).mono ?_
  rintro e w14 ⟨rfl, hb⟩
  have HB14 := Lib.hid (HB13.out.trans (hb.mono HZ13.out.lies.1))
  clear hb
  go_wp2
  go_ret
  exact ⟨rfl, by rw [HR.out]; exact HB14.out⟩
end Go.Proofs.Ytngfcgegondmgaa
