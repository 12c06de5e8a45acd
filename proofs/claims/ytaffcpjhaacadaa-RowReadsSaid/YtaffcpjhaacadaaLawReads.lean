/-
  RowReads walked.
  Conditions: none.
-/
import Derived.Test.YtaffcpjhaacadaaAwake
import Derived.Test.YtaffcpjhaacadaaRowSame
import Derived.Test.YtaffcpjhaacadaaDecode
import Derived.Test.YtaffcpjhaacadaaRefDecode
set_option linter.unusedVariables false
namespace Go.Proofs.Ytaffcpjhaacadaa
open Go.RowKit

set_option maxRecDepth 100000 in
set_option maxHeartbeats 4000000 in
theorem reads_law (v : Value) (bs : List Nat) (w : World) (hv : BytesAt w v bs) : Calls Try.prog 4 #[v] w (RetB (.bool true) w) := by
  have HV := Lib.hid hv
  obtain ⟨A, c, rfl, _⟩ := hv
  have HB0 := Lib.hid (Below.refl w.heap.size w)
  by_cases hl : bs.length ≤ 2000
  · have hlz : ¬ (2000 : Int) < (bs.length : Int) := by omega
    have HL := Lib.hid (show bs.length ≤ 100000 by omega)
    clear hl
    go_enter Try.func4, Try.ntmps4
    go_wp2_with fail
    refine (decode_any _ bs w HV.out (Nat.le_trans HL.out (by decide))).mono ?_
    rintro e w1 ⟨m, v1, ok, ls, rfl, hd1, hi1, hb1⟩
    obtain ⟨A1, c1, rfl, _⟩ := hi1.form
    have HB1 := Lib.hid hb1
    have HD1 := Lib.hid hd1
    have HI1 := Lib.hid hi1
    clear hd1 hi1 hb1
    generalize hE : (if ok = true then (0 : Int) else 3) = E
    have HE := Lib.hid hE
    clear hE
    simp only
    go_wp2_with fail
    refine (refDecode_any _ bs w1 (HV.out.keep HB1.out) HL.out).mono ?_
    rintro e w2 ⟨m2, v2, ok2, ls2, rfl, hd2, hi2, hb2⟩
    obtain ⟨rfl, hR, rfl⟩ := HD1.out.unique hd2
    obtain ⟨A2, c2, rfl, _⟩ := hi2.form
    have HB2 := Lib.hid (HB1.out.trans (hb2.mono HB1.out.size))
    have HS := Lib.hid (refRows_any _ _ ls ls2 w2 (HI1.out.keep hb2) hi2)
    rw [decide_eq_true hR] at HS
    have hmm : (m == m) = true := by simp
    clear hd2 hi2 hb2 hR
    simp only
    cases ok with
    | true =>
      obtain rfl : (0 : Int) = E := by have h := HE.out; simpa using h
      go_wp2_with fail
      refine HS.out.mono ?_
      intro e w3 hrt
      obtain ⟨rfl, hb3⟩ := hrt.below
      have HB3 := Lib.hid (HB2.out.trans (hb3.mono HB2.out.size))
      clear hrt hb3
      go_wp2_with fail
      refine (awake_any w3).mono ?_
      rintro e wz ⟨rfl, hbz⟩
      go_wp2
      go_ret
      exact ⟨rfl, HB3.out.trans (hbz.mono HB3.out.size)⟩
    | false =>
      obtain rfl : (3 : Int) = E := by have h := HE.out; simpa using h
      go_wp2_with fail
      refine HS.out.mono ?_
      intro e w3 hrt
      obtain ⟨rfl, hb3⟩ := hrt.below
      have HB3 := Lib.hid (HB2.out.trans (hb3.mono HB2.out.size))
      clear hrt hb3
      go_wp2_with fail
      refine (awake_any w3).mono ?_
      rintro e wz ⟨rfl, hbz⟩
      go_wp2
      go_ret
      exact ⟨rfl, HB3.out.trans (hbz.mono HB3.out.size)⟩
  · have hlz : (2000 : Int) < (bs.length : Int) := by omega
    clear hl
    go_enter Try.func4, Try.ntmps4
    go_wp2_with fail
    refine (awake_any w).mono ?_
    rintro e wz ⟨rfl, hbz⟩
    go_wp2
    go_ret
    exact ⟨rfl, HB0.out.trans (hbz.mono HB0.out.size)⟩
end Go.Proofs.Ytaffcpjhaacadaa
