/-
  ReplyReads walked.
  Conditions: none.
-/
import Derived.Test.YtkkaekcjinopkaaAwake
import Derived.Test.YtkkaekcjinopkaaSame
import Derived.Test.YtkkaekcjinopkaaDecode
import Derived.Test.YtkkaekcjinopkaaRefDecode
set_option linter.unusedVariables false
namespace Go.Proofs.Ytkkaekcjinopkaa
open Go.RowKit

set_option maxRecDepth 100000 in
set_option maxHeartbeats 4000000 in
theorem reads_law (v : Value) (bs : List Nat) (w : World) (hv : BytesAt w v bs) : Calls Try.prog 4 #[v] w (RetB (.bool true) w) := by
  have HV := Lib.hid hv
  obtain ⟨A, c, rfl, _⟩ := hv
  by_cases hl : bs.length ≤ 500
  · have hlz : ¬ (500 : Int) < (bs.length : Int) := by omega
    have HL := Lib.hid (show bs.length ≤ 100000 by omega)
    clear hl
    go_enter Try.func4, Try.ntmps4
    go_wp2_with fail
    refine (decode_any _ bs w HV.out HL.out).mono ?_
    rintro e w1 ⟨x, ok, v1, rfl, hd1, hi1, hb1⟩
    cases ok with
    | true =>
      obtain ⟨A1, l1, rfl⟩ := hi1.form2
      have hbx := below_new (W := w1) (.cells (repA x (.slice A1 x.ns.length l1)) 25)
      have HX := Lib.hid (RepAt.new w1 x (.slice A1 x.ns.length l1))
      have HI1 := Lib.hid (hi1.keep hbx)
      have HB1 := Lib.hid (hb1.trans (hbx.mono hb1.size))
      have HD1 := Lib.hid hd1
      have HB0 := Lib.hid hb1
      clear hd1 hi1 hb1 hbx
      go_upto_region 4 with fail
      generalize hw2 : w1.alloc (.cells (repA x (.slice A1 x.ns.length l1)) 25) = w2 at *
      clear hw2
      go_wp2_with fail
      refine (refDecode_any _ bs w2 (HV.out.keep HB1.out) HL.out).mono ?_
      rintro e w3 ⟨y, ok2, v2, rfl, hd2, hi2, hb2⟩
      obtain ⟨rfl, rfl⟩ := HD1.out.unique hd2
      obtain ⟨A2, l2, rfl⟩ := hi2.form2
      have hby := below_new (W := w3) (.cells (repA x (.slice A2 x.ns.length l2)) 25)
      have HY := Lib.hid (RepAt.new w3 x (.slice A2 x.ns.length l2))
      have HX4 := Lib.hid ((HX.out.keep hb2).keep hby)
      have HI4 := Lib.hid ((HI1.out.keep hb2).keep hby)
      have HJ4 := Lib.hid (hi2.keep hby)
      have HB4 := Lib.hid (HB1.out.trans ((hb2.trans (hby.mono hb2.size)).mono HB1.out.size))
      clear hd2 hi2 hb2 hby
      go_upto_region 5 with fail
      generalize hw4 : w3.alloc (.cells (repA x (.slice A2 x.ns.length l2)) 25) = w4 at *
      obtain ⟨c0, c1, c2, c3⟩ := HX4.out.cells
      obtain ⟨d0, d1, d2, d3⟩ := HY.out.cells
      clear hw4
      go_wp2_with fail
      refine (refSame12_any x x _ _ w4 HI4.out HJ4.out).mono ?_
      rw [sameB_self]
      rintro e w5 ⟨rfl, hb5⟩
      have HB5 := Lib.hid (HB4.out.trans (hb5.mono HB4.out.size))
      clear c0 c1 c2 c3 d0 d1 d2 d3 hb5
      go_wp2_with fail
      refine (awake_any w5).mono ?_
      rintro e w6 ⟨rfl, hb6⟩
      go_wp2
      go_ret
      exact ⟨rfl, HB5.out.trans (hb6.mono HB5.out.size)⟩
    | false =>
      obtain ⟨A1, l1, rfl⟩ := hi1.form2
      have hbx := below_new (W := w1) (.cells (repA x (.slice A1 x.ns.length l1)) 25)
      have HX := Lib.hid (RepAt.new w1 x (.slice A1 x.ns.length l1))
      have HI1 := Lib.hid (hi1.keep hbx)
      have HB1 := Lib.hid (hb1.trans (hbx.mono hb1.size))
      have HD1 := Lib.hid hd1
      have HB0 := Lib.hid hb1
      clear hd1 hi1 hb1 hbx
      go_upto_region 4 with fail
      generalize hw2 : w1.alloc (.cells (repA x (.slice A1 x.ns.length l1)) 25) = w2 at *
      clear hw2
      go_wp2_with fail
      refine (refDecode_any _ bs w2 (HV.out.keep HB1.out) HL.out).mono ?_
      rintro e w3 ⟨y, ok2, v2, rfl, hd2, hi2, hb2⟩
      obtain ⟨rfl, rfl⟩ := HD1.out.unique hd2
      obtain ⟨A2, l2, rfl⟩ := hi2.form2
      have hby := below_new (W := w3) (.cells (repA x (.slice A2 x.ns.length l2)) 25)
      have HY := Lib.hid (RepAt.new w3 x (.slice A2 x.ns.length l2))
      have HX4 := Lib.hid ((HX.out.keep hb2).keep hby)
      have HI4 := Lib.hid ((HI1.out.keep hb2).keep hby)
      have HJ4 := Lib.hid (hi2.keep hby)
      have HB4 := Lib.hid (HB1.out.trans ((hb2.trans (hby.mono hb2.size)).mono HB1.out.size))
      clear hd2 hi2 hb2 hby
      go_upto_region 5 with fail
      generalize hw4 : w3.alloc (.cells (repA x (.slice A2 x.ns.length l2)) 25) = w4 at *
      obtain ⟨c0, c1, c2, c3⟩ := HX4.out.cells
      obtain ⟨d0, d1, d2, d3⟩ := HY.out.cells
      clear hw4
      go_wp2_with fail
      refine (refSame12_any x x _ _ w4 HI4.out HJ4.out).mono ?_
      rw [sameB_self]
      rintro e w5 ⟨rfl, hb5⟩
      have HB5 := Lib.hid (HB4.out.trans (hb5.mono HB4.out.size))
      clear c0 c1 c2 c3 d0 d1 d2 d3 hb5
      go_wp2_with fail
      refine (awake_any w5).mono ?_
      rintro e w6 ⟨rfl, hb6⟩
      go_wp2
      go_ret
      exact ⟨rfl, HB5.out.trans (hb6.mono HB5.out.size)⟩
  · have hlz : (500 : Int) < (bs.length : Int) := by omega
    go_enter Try.func4, Try.ntmps4
    go_wp2_with fail
    refine (awake_any w).mono ?_
    rintro e w6 ⟨rfl, hb6⟩
    go_wp2
    go_ret
    exact ⟨rfl, hb6⟩
end Go.Proofs.Ytkkaekcjinopkaa
