/-
  RowBack walked.
  Conditions: none.
-/
import Derived.Test.YtaffcpjhaacadaaAwake
import Derived.Test.YtaffcpjhaacadaaRowSame
import Derived.Test.YtaffcpjhaacadaaDecode
import Derived.Test.YtaffcpjhaacadaaLight
set_option linter.unusedVariables false
namespace Go.Proofs.Ytaffcpjhaacadaa
open Go.RowKit

set_option maxRecDepth 100000 in
set_option maxHeartbeats 4000000 in
theorem back_law (m : Int) (u v : Value) (ls : List (Value × List Int)) (bs : List Nat) (w : World) (hu : RowsAt w u ls) (hv : BytesAt w v bs) : Calls Try.prog 5 #[.int .i64 m, u, v] w (RetB (.bool true) w) := by
  have HV := Lib.hid hv
  have HU := Lib.hid hu
  obtain ⟨A, c, rfl, _⟩ := hv
  obtain ⟨A0, c0, rfl, _⟩ := hu.form
  have HB0 := Lib.hid (Below.refl w.heap.size w)
  have HLT := Lib.hid (light_any _ ls w hu)
  have hmm : (m == m) = true := by simp
  have hmn : (m != m) = false := by simp
  clear hu
  go_enter Try.func5, Try.ntmps5
  go_wp2_with fail
  refine HLT.out.mono ?_
  rintro e w' ⟨q, rfl, rfl, _⟩
  cases q with
  | true =>
    by_cases hl : bs.length ≤ 2000
    · have hlz : ¬ (2000 : Int) < (bs.length : Int) := by omega
      have HL := Lib.hid (show bs.length ≤ 100000 by omega)
      clear hl
      go_wp2_with fail
      refine (encode_any m _ ls w HU.out).mono ?_
      intro e w2 hE
      cases hr : rightW m (rowsOf ls) with
      | true =>
        obtain ⟨v2, rfl, ho2, hb2⟩ := hE.yes hr
        have HRR := Lib.hid (rightW_iff.1 hr)
        have HB2 := Lib.hid hb2
        have HO2 := Lib.hid ho2
        clear hE ho2 hb2 hr
        simp only
        go_wp2_with fail
        refine (decode_any v2 (encW m (rowsOf ls)) w2 HO2.out.bytes (by have := HRR.out.bytes; omega)).mono ?_
        rintro e w3 ⟨x, v3, ok, ls3, rfl, hd3, hi3, hb3⟩
        obtain ⟨rfl, hR, rfl⟩ := IsDec.unique (show IsDec (encW m (rowsOf ls)) m (rowsOf ls) true from .inl ⟨rfl, HRR.out, rfl⟩) hd3
        obtain ⟨A3, c3, rfl, _⟩ := hi3.form
        have HB3 := Lib.hid (HB2.out.trans (hb3.mono HB2.out.size))
        have HS := Lib.hid (refRows_any _ _ ls3 ls w3 hi3 (HU.out.keep HB3.out))
        rw [decide_eq_true hR.symm] at HS
        clear hd3 hi3 hb3 hR
        simp only
        go_wp2_with fail
        refine HS.out.mono ?_
        intro e w5 hrt
        obtain ⟨rfl, hb5⟩ := hrt.below
        have HB5 := Lib.hid (HB3.out.trans (hb5.mono HB3.out.size))
        clear hrt hb5
        go_wp2_with fail
        refine (decode_any _ bs w5 (HV.out.keep HB5.out) (Nat.le_trans HL.out (by decide))).mono ?_
        rintro e w6 ⟨n, v6, ok, ls6, rfl, hd6, hi6, hb6⟩
        have HB6 := Lib.hid (HB5.out.trans (hb6.mono HB5.out.size))
        have HD6 := Lib.hid hd6
        have HI6 := Lib.hid hi6
        clear hd6 hi6 hb6
        cases ok with
        | true =>
          obtain ⟨A6, c6, rfl, _⟩ := HI6.out.form
          have hfit : RightR n (rowsOf ls6) ∧ encW n (rowsOf ls6) = bs := by
            rcases HD6.out with ⟨_, h1, h2⟩ | ⟨h, _⟩
            · exact ⟨h1, h2⟩
            · cases h
          have HF := Lib.hid hfit
          clear hfit
          simp only
          go_wp2_with fail
          refine (encode_any n _ ls6 w6 HI6.out).mono ?_
          intro e w8 hE
          obtain ⟨v8, rfl, ho8, hb8⟩ := hE.yes (rightW_iff.2 HF.out.1)
          rw [HF.out.2] at ho8
          have e1 := conv_text (P := Try.prog) (dst := 9) ho8.bytes Try.underlying25 Try.underlying5 Try.underlying9
          have HB8 := Lib.hid (HB6.out.trans (hb8.mono HB6.out.size))
          have e2 := conv_text (P := Try.prog) (dst := 9) (HV.out.keep HB8.out) Try.underlying25 Try.underlying5 Try.underlying9
          clear hE ho8 hb8
          simp only
          go_wp2_with fail
          refine (awake_any w8).mono ?_
          rintro e wz ⟨rfl, hbz⟩
          go_wp2
          go_ret
          exact ⟨rfl, HB8.out.trans (hbz.mono HB8.out.size)⟩
        | false =>
          have hno : n = 0 ∧ rowsOf ls6 = [] := by
            rcases HD6.out with ⟨h, _⟩ | ⟨_, h1, h2, _⟩
            · cases h
            · exact ⟨h1, h2⟩
          obtain ⟨rfl, hls⟩ := hno
          have hls6 : ls6 = [] := by
            have h := rowsOf_length ls6
            rw [hls] at h
            exact List.eq_nil_of_length_eq_zero h.symm
          subst hls6
          obtain ⟨A6, c6, rfl, _⟩ := HI6.out.form
          clear hls
          simp only [List.length_nil]
          go_wp2_with fail
          refine (awake_any w6).mono ?_
          rintro e wz ⟨rfl, hbz⟩
          go_wp2
          go_ret
          exact ⟨rfl, HB6.out.trans (hbz.mono HB6.out.size)⟩
      | false =>
        obtain ⟨rfl, hb2⟩ := hE.no hr
        have HB5 := Lib.hid hb2
        clear hE hb2 hr
        simp only
        go_wp2_with fail
        refine (decode_any _ bs w2 (HV.out.keep HB5.out) (Nat.le_trans HL.out (by decide))).mono ?_
        rintro e w6 ⟨n, v6, ok, ls6, rfl, hd6, hi6, hb6⟩
        have HB6 := Lib.hid (HB5.out.trans (hb6.mono HB5.out.size))
        have HD6 := Lib.hid hd6
        have HI6 := Lib.hid hi6
        clear hd6 hi6 hb6
        cases ok with
        | true =>
          obtain ⟨A6, c6, rfl, _⟩ := HI6.out.form
          have hfit : RightR n (rowsOf ls6) ∧ encW n (rowsOf ls6) = bs := by
            rcases HD6.out with ⟨_, h1, h2⟩ | ⟨h, _⟩
            · exact ⟨h1, h2⟩
            · cases h
          have HF := Lib.hid hfit
          clear hfit
          simp only
          go_wp2_with fail
          refine (encode_any n _ ls6 w6 HI6.out).mono ?_
          intro e w8 hE
          obtain ⟨v8, rfl, ho8, hb8⟩ := hE.yes (rightW_iff.2 HF.out.1)
          rw [HF.out.2] at ho8
          have e1 := conv_text (P := Try.prog) (dst := 9) ho8.bytes Try.underlying25 Try.underlying5 Try.underlying9
          have HB8 := Lib.hid (HB6.out.trans (hb8.mono HB6.out.size))
          have e2 := conv_text (P := Try.prog) (dst := 9) (HV.out.keep HB8.out) Try.underlying25 Try.underlying5 Try.underlying9
          clear hE ho8 hb8
          simp only
          go_wp2_with fail
          refine (awake_any w8).mono ?_
          rintro e wz ⟨rfl, hbz⟩
          go_wp2
          go_ret
          exact ⟨rfl, HB8.out.trans (hbz.mono HB8.out.size)⟩
        | false =>
          have hno : n = 0 ∧ rowsOf ls6 = [] := by
            rcases HD6.out with ⟨h, _⟩ | ⟨_, h1, h2, _⟩
            · cases h
            · exact ⟨h1, h2⟩
          obtain ⟨rfl, hls⟩ := hno
          have hls6 : ls6 = [] := by
            have h := rowsOf_length ls6
            rw [hls] at h
            exact List.eq_nil_of_length_eq_zero h.symm
          subst hls6
          obtain ⟨A6, c6, rfl, _⟩ := HI6.out.form
          clear hls
          simp only [List.length_nil]
          go_wp2_with fail
          refine (awake_any w6).mono ?_
          rintro e wz ⟨rfl, hbz⟩
          go_wp2
          go_ret
          exact ⟨rfl, HB6.out.trans (hbz.mono HB6.out.size)⟩
    · have hlz : (2000 : Int) < (bs.length : Int) := by omega
      clear hl
      go_wp2_with fail
      refine (awake_any w).mono ?_
      rintro e wz ⟨rfl, hbz⟩
      go_wp2
      go_ret
      exact ⟨rfl, HB0.out.trans (hbz.mono HB0.out.size)⟩
  | false =>
    go_wp2_with fail
    refine (awake_any w).mono ?_
    rintro e wz ⟨rfl, hbz⟩
    go_wp2
    go_ret
    exact ⟨rfl, HB0.out.trans (hbz.mono HB0.out.size)⟩
end Go.Proofs.Ytaffcpjhaacadaa
