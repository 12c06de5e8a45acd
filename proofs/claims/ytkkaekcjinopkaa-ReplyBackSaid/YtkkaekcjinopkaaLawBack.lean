/-
  ReplyBack walked.
  Conditions: the numbers are of their kind.
-/
import Derived.Test.YtkkaekcjinopkaaAwake
import Derived.Test.YtkkaekcjinopkaaSame
import Derived.Test.YtkkaekcjinopkaaDecode
set_option linter.unusedVariables false
namespace Go.Proofs.Ytkkaekcjinopkaa
open Go.RowKit

theorem encR_len {r : Rep} (h : FitR r) : (encR r).length ≤ 1000 := by
  have h1 := encs_length (numsR r) (numsR_small h)
  rw [numsR_length] at h1
  have := (rightB_iff.1 h.right).short
  unfold encR
  omega

set_option maxRecDepth 100000 in
set_option maxHeartbeats 4000000 in
theorem back_law (a : Rep) (u v : Value) (bs : List Nat) (w : World) (hu : IntsAt w u a.ns) (hs : ∀ n ∈ a.ns, n ≤ 9223372036854775807) (hv : BytesAt w v bs) : Calls Try.prog 5 #[.agg (repA a u), v] w (RetB (.bool true) w) := by
  have HV := Lib.hid hv
  have HS := Lib.hid hs
  obtain ⟨A, c, rfl, _⟩ := hv
  obtain ⟨A0, c0, rfl⟩ := hu.form2
  have hb1 := below_new (W := w) (.cells (repA a (.slice A0 a.ns.length c0)) 25)
  have HA := Lib.hid (RepAt.new w a (.slice A0 a.ns.length c0))
  have HU := Lib.hid (hu.keep hb1)
  have HB := Lib.hid hb1
  obtain ⟨b0, b1, b2, b3⟩ := HA.out.cells
  clear hu hs hb1
  go_enter Try.func5, Try.ntmps5
  go_upto_region 1 with fail
  generalize hw1 : w.alloc (.cells (repA a (.slice A0 a.ns.length c0)) 25) = w1 at *
  clear hw1
  by_cases hn : a.ns.length ≤ 100
  · have hnz : ¬ (100 : Int) < (a.ns.length : Int) := by omega
    by_cases hl : bs.length ≤ 500
    · have hlz : ¬ (500 : Int) < (bs.length : Int) := by omega
      have HL := Lib.hid (show bs.length ≤ 100000 by omega)
      clear hn hl
      go_wp2_with fail
      refine (encode_any a _ w1 HU.out HS.out).mono ?_
      intro e w2 hE
      cases hr : rightB a with
      | true =>
        obtain ⟨v2, rfl, ho2, hb2⟩ := hE.yes hr
        have HFT := Lib.hid (show FitR a from ⟨hr, HS.out⟩)
        have HA2 := Lib.hid (HA.out.keep hb2)
        have HU2 := Lib.hid (HU.out.keep hb2)
        have HB2 := Lib.hid (HB.out.trans (hb2.mono HB.out.size))
        have HO2 := Lib.hid ho2
        clear hE ho2 hb2 b0 b1 b2 b3
        simp only
        go_wp2_with fail
        refine (decode_any v2 (encR a) w2 HO2.out.bytes (by have := encR_len HFT.out; omega)).mono ?_
        rintro e w3 ⟨x, ok, v3, rfl, hd3, hi3, hb3⟩
        obtain ⟨rfl, rfl⟩ := IsDec.unique (show IsDec (encR a) a true from .inl ⟨rfl, HFT.out, rfl⟩) hd3
        obtain ⟨A3, l3, rfl⟩ := hi3.form2
        have hbx := below_new (W := w3) (.cells (repA a (.slice A3 a.ns.length l3)) 25)
        have HX4 := Lib.hid (RepAt.new w3 a (.slice A3 a.ns.length l3))
        have HA4 := Lib.hid ((HA2.out.keep hb3).keep hbx)
        have HU4 := Lib.hid ((HU2.out.keep hb3).keep hbx)
        have HI4 := Lib.hid (hi3.keep hbx)
        have HB4 := Lib.hid (HB2.out.trans ((hb3.trans (hbx.mono hb3.size)).mono HB2.out.size))
        clear hd3 hi3 hb3 hbx
        go_upto_region 6 with fail
        generalize hw4 : w3.alloc (.cells (repA a (.slice A3 a.ns.length l3)) 25) = w4 at *
        obtain ⟨b0, b1, b2, b3⟩ := HA4.out.cells
        obtain ⟨d0, d1, d2, d3⟩ := HX4.out.cells
        clear hw4 hr
        go_wp2_with fail
        refine (refSame12_any a a _ _ w4 HU4.out HI4.out).mono ?_
        rw [sameB_self]
        rintro e w5 ⟨rfl, hb5⟩
        have HB5 := Lib.hid (HB4.out.trans (hb5.mono HB4.out.size))
        clear b0 b1 b2 b3 d0 d1 d2 d3 hb5
        go_wp2_with fail
        refine (decode_any _ bs w5 (HV.out.keep HB5.out) HL.out).mono ?_
        rintro e w6 ⟨y, ok, v6, rfl, hd6, hi6, hb6⟩
        obtain ⟨A6, l6, rfl⟩ := hi6.form2
        have hby := below_new (W := w6) (.cells (repA y (.slice A6 y.ns.length l6)) 25)
        have HB7 := Lib.hid (HB5.out.trans ((hb6.trans (hby.mono hb6.size)).mono HB5.out.size))
        have HY7 := Lib.hid (RepAt.new w6 y (.slice A6 y.ns.length l6))
        have HI7 := Lib.hid (hi6.keep hby)
        have HD7 := Lib.hid hd6
        clear hd6 hi6 hb6 hby
        cases ok with
        | true =>
          go_upto_region 9 with fail
          generalize hw7 : w6.alloc (.cells (repA y (.slice A6 y.ns.length l6)) 25) = w7 at *
          obtain ⟨d0, d1, d2, d3⟩ := HY7.out.cells
          have hfit : FitR y ∧ encR y = bs := by
            rcases HD7.out with ⟨_, h1, h2⟩ | ⟨h, _⟩
            · exact ⟨h1, h2⟩
            · cases h
          have HF := Lib.hid hfit
          clear hw7 hfit
          go_wp2_with fail
          refine (encode_any y _ w7 HI7.out HF.out.1.small).mono ?_
          intro e w8 hE
          obtain ⟨v8, rfl, ho8, hb8⟩ := hE.yes HF.out.1.right
          rw [HF.out.2] at ho8
          have e1 := conv_text (P := Try.prog) (dst := 9) ho8.bytes Try.underlying27 Try.underlying5 Try.underlying9
          have HB8 := Lib.hid (HB7.out.trans (hb8.mono HB7.out.size))
          have e2 := conv_text (P := Try.prog) (dst := 9) (HV.out.keep HB8.out) Try.underlying27 Try.underlying5 Try.underlying9
          clear hE ho8 hb8 d0 d1 d2 d3
          simp only
          go_wp2_with fail
          refine (awake_any w8).mono ?_
          rintro e wz ⟨rfl, hbz⟩
          go_wp2
          go_ret
          exact ⟨rfl, HB8.out.trans (hbz.mono HB8.out.size)⟩
        | false =>
          go_upto_region 9 with fail
          generalize hw7 : w6.alloc (.cells (repA y (.slice A6 y.ns.length l6)) 25) = w7 at *
          clear hw7
          go_wp2_with fail
          refine (awake_any w7).mono ?_
          rintro e wz ⟨rfl, hbz⟩
          go_wp2
          go_ret
          exact ⟨rfl, HB7.out.trans (hbz.mono HB7.out.size)⟩
      | false =>
        obtain ⟨rfl, hb2⟩ := hE.no hr
        have HB5 := Lib.hid (HB.out.trans (hb2.mono HB.out.size))
        clear hE hb2 b0 b1 b2 b3 hr
        simp only
        go_wp2_with fail
        refine (decode_any _ bs w2 (HV.out.keep HB5.out) HL.out).mono ?_
        rintro e w6 ⟨y, ok, v6, rfl, hd6, hi6, hb6⟩
        obtain ⟨A6, l6, rfl⟩ := hi6.form2
        have hby := below_new (W := w6) (.cells (repA y (.slice A6 y.ns.length l6)) 25)
        have HB7 := Lib.hid (HB5.out.trans ((hb6.trans (hby.mono hb6.size)).mono HB5.out.size))
        have HY7 := Lib.hid (RepAt.new w6 y (.slice A6 y.ns.length l6))
        have HI7 := Lib.hid (hi6.keep hby)
        have HD7 := Lib.hid hd6
        clear hd6 hi6 hb6 hby
        cases ok with
        | true =>
          go_upto_region 9 with fail
          generalize hw7 : w6.alloc (.cells (repA y (.slice A6 y.ns.length l6)) 25) = w7 at *
          obtain ⟨d0, d1, d2, d3⟩ := HY7.out.cells
          have hfit : FitR y ∧ encR y = bs := by
            rcases HD7.out with ⟨_, h1, h2⟩ | ⟨h, _⟩
            · exact ⟨h1, h2⟩
            · cases h
          have HF := Lib.hid hfit
          clear hw7 hfit
          go_wp2_with fail
          refine (encode_any y _ w7 HI7.out HF.out.1.small).mono ?_
          intro e w8 hE
          obtain ⟨v8, rfl, ho8, hb8⟩ := hE.yes HF.out.1.right
          rw [HF.out.2] at ho8
          have e1 := conv_text (P := Try.prog) (dst := 9) ho8.bytes Try.underlying27 Try.underlying5 Try.underlying9
          have HB8 := Lib.hid (HB7.out.trans (hb8.mono HB7.out.size))
          have e2 := conv_text (P := Try.prog) (dst := 9) (HV.out.keep HB8.out) Try.underlying27 Try.underlying5 Try.underlying9
          clear hE ho8 hb8 d0 d1 d2 d3
          simp only
          go_wp2_with fail
          refine (awake_any w8).mono ?_
          rintro e wz ⟨rfl, hbz⟩
          go_wp2
          go_ret
          exact ⟨rfl, HB8.out.trans (hbz.mono HB8.out.size)⟩
        | false =>
          go_upto_region 9 with fail
          generalize hw7 : w6.alloc (.cells (repA y (.slice A6 y.ns.length l6)) 25) = w7 at *
          clear hw7
          go_wp2_with fail
          refine (awake_any w7).mono ?_
          rintro e wz ⟨rfl, hbz⟩
          go_wp2
          go_ret
          exact ⟨rfl, HB7.out.trans (hbz.mono HB7.out.size)⟩
    · have hlz : (500 : Int) < (bs.length : Int) := by omega
      clear hn hl
      go_wp2_with fail
      refine (awake_any w1).mono ?_
      rintro e wz ⟨rfl, hbz⟩
      go_wp2
      go_ret
      exact ⟨rfl, HB.out.trans (hbz.mono HB.out.size)⟩
  · have hnz : (100 : Int) < (a.ns.length : Int) := by omega
    clear hn
    go_wp2_with fail
    refine (awake_any w1).mono ?_
    rintro e wz ⟨rfl, hbz⟩
    go_wp2
    go_ret
    exact ⟨rfl, HB.out.trans (hbz.mono HB.out.size)⟩
end Go.Proofs.Ytkkaekcjinopkaa
