/-
  The law AppoLargest: it returns true for any total and weights, and writes nothing that was there.
  Conditions: none.
-/
import Derived.Test.YtbmdbjecjiolpaaRefLargest
set_option linter.unusedVariables false
namespace Go.Proofs.Ytbmdbjecjiolpaa
open Go.RowKit

set_option maxRecDepth 100000 in
set_option maxHeartbeats 2000000 in
theorem largestLaw_ok (T : Int) (ws : List Int) (v : Value) (w : World) (hv : IntsAt w v ws) (h : AllRight T ws) :
    Calls Try.prog 3 #[.int .i64 T, v] w (Ans w) := by
  have HL := Lib.hid (largest_ok T ws v w hv h)
  have HV := Lib.hid hv
  have HA := Lib.hid h
  have HCK := Lib.hid (fun W hb => by have := check_any ws v W (HV.out.keep hb); rw [chk_ok h.2.2] at this; exact this)
  have HRA := Lib.hid (fun W hb => by have := right_any ws v W (HV.out.keep hb); rw [rightB_true h.2.2] at this; exact this)
  have HTY := Lib.hid (fun W => total_yes T W h.1 h.2.1)
  clear hv h
  go_enter Try.func3, Try.ntmps3
  go_wp2_with fail
  refine HL.out.mono ?_
  rintro e w1 ⟨v1, l, rfl, ⟨d, m, hm, hd, hl⟩, hi1, hb1⟩
  have HB1 := Lib.hid hb1
  have HI1 := Lib.hid hi1
  have HC1 := Lib.hid (HCK.out w1 hb1)
  have HR1 := Lib.hid (HRA.out w1 hb1)
  have HRL := Lib.hid (refLargest_ok T ws v w1 (HV.out.keep hb1) HA.out d m hm hd)
  have HLL := Lib.hid hl
  clear hb1 hi1 hm hd hl
  go_wp2_with (first
    | (go_at_call 10; refine HC1.out.mono ?_; rintro e w' ⟨rfl, rfl⟩)
    | (go_at_call 11; refine HR1.out.mono ?_; rintro e w' ⟨rfl, rfl⟩)
    | (go_at_call 12; refine (HTY.out _).mono ?_; rintro e w' ⟨rfl, rfl⟩))
  refine HRL.out.mono ?_
  rintro e w2 ⟨v2, rfl, hi2, hb2⟩
  rw [← HLL.out] at hi2
  have HSM := Lib.hid (ex_same l w2 v1 v2 (HI1.out.keep hb2) hi2)
  have HB2 := Lib.hid (HB1.out.trans (hb2.mono HB1.out.size))
  clear hi2 hb2
  go_wp2_with fail
  refine HSM.out.mono ?_
  rintro e w3 ⟨rfl, hb3⟩
  have HB3 := Lib.hid (HB2.out.trans (hb3.mono HB2.out.size))
  clear hb3
  go_wp2_with (go_at_call 13; refine (awake_any _).mono ?_; rintro e w4 ⟨rfl, hb4⟩)
  go_ret
  exact ⟨rfl, HB3.out.trans (hb4.mono HB3.out.size)⟩

set_option maxRecDepth 100000 in
set_option maxHeartbeats 2000000 in
theorem largestLaw_bad (T : Int) (ws : List Int) (v : Value) (w : World) (hv : IntsAt w v ws) (h : ¬ AllRight T ws) :
    Calls Try.prog 3 #[.int .i64 T, v] w (Ans w) := by
  have HL := Lib.hid (largest_bad T ws v w hv h)
  have HV := Lib.hid hv
  by_cases hr : Right ws
  · have HCK := Lib.hid (fun W hb => by have := check_any ws v W (HV.out.keep hb); rw [chk_ok hr] at this; exact this)
    have HRA := Lib.hid (fun W hb => by have := right_any ws v W (HV.out.keep hb); rw [rightB_true hr] at this; exact this)
    have HTN := Lib.hid (fun W => total_no T W (by
      by_cases q : T < 0
      · exact .inl q
      · by_cases q2 : 1048576 < T
        · exact .inr q2
        · exact absurd ⟨by omega, by omega, hr⟩ h))
    clear hv h hr
    go_enter Try.func3, Try.ntmps3
    go_wp2_with fail
    refine HL.out.mono ?_
    rintro e w1 ⟨v1, rfl, hi1, hb1⟩
    obtain ⟨A1, c1, rfl, _, _⟩ := hi1
    have HB1 := Lib.hid hb1
    have HC1 := Lib.hid (HCK.out w1 hb1)
    have HR1 := Lib.hid (HRA.out w1 hb1)
    clear hb1
    go_wp2_with (first
      | (go_at_call 10; refine HC1.out.mono ?_; rintro e w' ⟨rfl, rfl⟩)
      | (go_at_call 11; refine HR1.out.mono ?_; rintro e w' ⟨rfl, rfl⟩)
      | (go_at_call 12; refine (HTN.out _).mono ?_; rintro e w' ⟨rfl, rfl⟩)
      | (go_at_call 13; refine (awake_any _).mono ?_; rintro e w4 ⟨rfl, hb4⟩))
    go_ret
    exact ⟨rfl, HB1.out.trans (hb4.mono HB1.out.size)⟩
  · have HCK := Lib.hid (fun W hb => by have := check_any ws v W (HV.out.keep hb); rw [chk_bad hr] at this; exact this)
    have HRA := Lib.hid (fun W hb => by have := right_any ws v W (HV.out.keep hb); rw [rightB_false hr] at this; exact this)
    clear hv h hr
    go_enter Try.func3, Try.ntmps3
    go_wp2_with fail
    refine HL.out.mono ?_
    rintro e w1 ⟨v1, rfl, hi1, hb1⟩
    obtain ⟨A1, c1, rfl, _, _⟩ := hi1
    have HB1 := Lib.hid hb1
    have HC1 := Lib.hid (HCK.out w1 hb1)
    have HR1 := Lib.hid (HRA.out w1 hb1)
    clear hb1
    go_wp2_with (first
      | (go_at_call 10; refine HC1.out.mono ?_; rintro e w' ⟨rfl, rfl⟩)
      | (go_at_call 11; refine HR1.out.mono ?_; rintro e w' ⟨rfl, rfl⟩)
      | (go_at_call 13; refine (awake_any _).mono ?_; rintro e w4 ⟨rfl, hb4⟩))
    go_ret
    exact ⟨rfl, HB1.out.trans (hb4.mono HB1.out.size)⟩

theorem largestLaw_any (T : Int) (ws : List Int) (v : Value) (w : World) (hv : IntsAt w v ws) (_ : -9223372036854775808 ≤ T) (_ : T ≤ 9223372036854775807) :
    Calls Try.prog 3 #[.int .i64 T, v] w (Ans w) := by
  by_cases h : AllRight T ws
  · exact largestLaw_ok T ws v w hv h
  · exact largestLaw_bad T ws v w hv h
end Go.Proofs.Ytbmdbjecjiolpaa
