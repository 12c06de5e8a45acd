/-
  The law AppoSeats: it returns true for any total, weights, and what anybody has, and writes nothing that was there.
  Conditions: none.
-/
import Derived.Test.YtbmdbjecjiolpaaLawNear
set_option linter.unusedVariables false
namespace Go.Proofs.Ytbmdbjecjiolpaa
open Go.RowKit

/-- Who is next, told twice alike. -/
def NextBoth (ws hs : List Int) (u v : Value) (w : World) (i : Int) (ok : Bool) : Prop :=
  (∀ W, Below w.heap.size w W → Calls Try.prog 17 #[u, v] W (RetB (.tuple #[.int .i64 i, .bool ok]) W)) ∧
  (∀ W, Below w.heap.size w W → Calls Try.prog 18 #[u, v] W (RetB (.tuple #[.int .i64 i, .bool ok]) W))
theorem next_both (ws hs : List Int) (u v : Value) (w : World) (hu : IntsAt w u ws) (hv : IntsAt w v hs) : ∃ i ok, NextBoth ws hs u v w i ok := by
  cases ho : nextL ws hs with
  | none => exact ⟨0, false, fun W hb => by have := next_any ws hs u v W (hu.keep hb) (hv.keep hb); rwa [ho] at this, fun W hb => by have := refNext_any ws hs u v W (hu.keep hb) (hv.keep hb); rwa [ho] at this⟩
  | some b => exact ⟨b, true, fun W hb => by have := next_any ws hs u v W (hu.keep hb) (hv.keep hb); rwa [ho] at this, fun W hb => by have := refNext_any ws hs u v W (hu.keep hb) (hv.keep hb); rwa [ho] at this⟩

set_option maxRecDepth 100000 in
set_option maxHeartbeats 2000000 in
theorem seatsLaw_many (T : Int) (ws hs : List Int) (u v : Value) (w : World) (hu : IntsAt w u ws) (hv : IntsAt w v hs) (h1 : 3000 < T) (h2 : T ≤ 1048576) :
    Calls Try.prog 5 #[.int .i64 T, u, v] w (Ans w) := by
  obtain ⟨i, ok, N1, N2⟩ := next_both ws hs u v w hu hv
  have HN1 := Lib.hid N1
  have HN2 := Lib.hid N2
  have ei : (i != i) = false := by simp
  have eo : (ok != ok) = false := by simp
  clear N1 N2 hu hv
  go_enter Try.func5, Try.ntmps5
  go_wp2_with fail
  refine (HN1.out w (Below.refl _ _)).mono ?_
  rintro e w1 ⟨rfl, hb1⟩
  have HB1 := Lib.hid hb1
  clear hb1
  go_wp2_with fail
  refine (HN2.out w1 HB1.out).mono ?_
  rintro e w2 ⟨rfl, hb2⟩
  have HB2 := Lib.hid (HB1.out.trans (hb2.mono HB1.out.size))
  clear hb2
  go_wp2_with (go_at_call 13; refine (awake_any _).mono ?_; rintro e w3 ⟨rfl, hb3⟩)
  go_ret
  exact ⟨rfl, HB2.out.trans (hb3.mono HB2.out.size)⟩

set_option maxRecDepth 100000 in
set_option maxHeartbeats 2000000 in
theorem seatsLaw_bad (T : Int) (ws hs : List Int) (u v : Value) (w : World) (hu : IntsAt w u ws) (hv : IntsAt w v hs) (h1 : ¬ (3000 < T ∧ T ≤ 1048576)) (h : ¬ AllRight T ws) :
    Calls Try.prog 5 #[.int .i64 T, u, v] w (Ans w) := by
  obtain ⟨i, ok, N1, N2⟩ := next_both ws hs u v w hu hv
  have HN1 := Lib.hid N1
  have HN2 := Lib.hid N2
  have ei : (i != i) = false := by simp
  have eo : (ok != ok) = false := by simp
  have HU := Lib.hid hu
  have HSB := Lib.hid (fun W hb => seats_bad T ws u W (HU.out.keep hb) h)
  have HRA := Lib.hid (fun W hb => right_any ws u W (HU.out.keep hb))
  have HT : Hid (rightB ws = false ∨ (rightB ws = true ∧ ∀ W, Calls Try.prog 12 #[.int .i64 T] W (Ret (.bool false) W))) := by
    by_cases hr : Right ws
    · exact .inr ⟨rightB_true hr, fun W => total_no T W (by
        by_cases q : T < 0
        · exact .inl q
        · by_cases q2 : 1048576 < T
          · exact .inr q2
          · exact absurd ⟨by omega, by omega, hr⟩ h)⟩
    · exact .inl (rightB_false hr)
  have hT : T ≤ 3000 ∨ (3000 < T ∧ 1048576 < T) := by omega
  clear N1 N2 hu hv h h1
  rcases hT with hT | ⟨hT, hT2⟩
  all_goals
    go_enter Try.func5, Try.ntmps5
    go_wp2_with fail
    refine (HN1.out w (Below.refl _ _)).mono ?_
    rintro e w1 ⟨rfl, hb1⟩
    have HB1 := Lib.hid hb1
    clear hb1
    go_wp2_with fail
    refine (HN2.out w1 HB1.out).mono ?_
    rintro e w2 ⟨rfl, hb2⟩
    have HB2 := Lib.hid (HB1.out.trans (hb2.mono HB1.out.size))
    clear hb2
    go_wp2_with fail
    refine (HSB.out w2 HB2.out).mono ?_
    rintro e w3 ⟨v3, rfl, hi3, hb3⟩
    obtain ⟨A3, c3, rfl, _, _⟩ := hi3
    have HB3 := Lib.hid (HB2.out.trans (hb3.mono HB2.out.size))
    clear hb3
    rcases HT.out with hr | ⟨hr, ht⟩
    · have HRA2 := HRA.out w3 HB3.out
      rw [hr] at HRA2
      have HRA2 := Lib.hid HRA2
      clear hr
      go_wp2_with (first
        | (go_at_call 11; refine HRA2.out.mono ?_; rintro e w' ⟨rfl, rfl⟩)
        | (go_at_call 13; refine (awake_any _).mono ?_; rintro e w4 ⟨rfl, hb4⟩))
      go_ret
      exact ⟨rfl, HB3.out.trans (hb4.mono HB3.out.size)⟩
    · have HRA2 := HRA.out w3 HB3.out
      rw [hr] at HRA2
      have HRA2 := Lib.hid HRA2
      have HTT := Lib.hid ht
      clear hr ht
      go_wp2_with (first
        | (go_at_call 11; refine HRA2.out.mono ?_; rintro e w' ⟨rfl, rfl⟩)
        | (go_at_call 12; refine (HTT.out _).mono ?_; rintro e w' ⟨rfl, rfl⟩)
        | (go_at_call 13; refine (awake_any _).mono ?_; rintro e w4 ⟨rfl, hb4⟩))
      go_ret
      exact ⟨rfl, HB3.out.trans (hb4.mono HB3.out.size)⟩

set_option maxRecDepth 100000 in
set_option maxHeartbeats 2000000 in
theorem seatsLaw_ok (n : Nat) (ws hs : List Int) (u v : Value) (w : World) (hu : IntsAt w u ws) (hv : IntsAt w v hs) (h1 : n ≤ 3000) (hr : Right ws) :
    Calls Try.prog 5 #[.int .i64 n, u, v] w (Ans w) := by
  obtain ⟨i, ok, N1, N2⟩ := next_both ws hs u v w hu hv
  have HN1 := Lib.hid N1
  have HN2 := Lib.hid N2
  have ei : (i != i) = false := by simp
  have eo : (ok != ok) = false := by simp
  have HU := Lib.hid hu
  have HSB := Lib.hid (fun W hb => seats_ok n ws u W (HU.out.keep hb) ⟨by omega, by omega, hr⟩)
  have HRS := Lib.hid (fun W hb => refSeats_any n ws u W (HU.out.keep hb) hr (by omega))
  have HRA := Lib.hid (fun W hb => by have := right_any ws u W (HU.out.keep hb); rw [rightB_true hr] at this; exact this)
  have HTT := Lib.hid (fun W => total_yes n W (by omega) (by omega))
  clear N1 N2 hu hv hr
  go_enter Try.func5, Try.ntmps5
  go_wp2_with fail
  refine (HN1.out w (Below.refl _ _)).mono ?_
  rintro e w1 ⟨rfl, hb1⟩
  have HB1 := Lib.hid hb1
  clear hb1
  go_wp2_with fail
  refine (HN2.out w1 HB1.out).mono ?_
  rintro e w2 ⟨rfl, hb2⟩
  have HB2 := Lib.hid (HB1.out.trans (hb2.mono HB1.out.size))
  clear hb2
  go_wp2_with fail
  refine (HSB.out w2 HB2.out).mono ?_
  rintro e w3 ⟨v3, rfl, hi3, hb3⟩
  have HI3 := Lib.hid hi3
  have HB3 := Lib.hid (HB2.out.trans (hb3.mono HB2.out.size))
  clear hb3 hi3
  have HRA2 := Lib.hid (HRA.out w3 HB3.out)
  go_wp2_with (first
    | (go_at_call 11; refine HRA2.out.mono ?_; rintro e w' ⟨rfl, rfl⟩)
    | (go_at_call 12; refine (HTT.out _).mono ?_; rintro e w' ⟨rfl, rfl⟩))
  refine (HRS.out w3 HB3.out).mono ?_
  rintro e w4 ⟨v4, rfl, hi4, hb4⟩
  have HSM := Lib.hid (ex_same (gr ws n) w4 v3 v4 (HI3.out.keep hb4) hi4)
  have HB4 := Lib.hid (HB3.out.trans (hb4.mono HB3.out.size))
  clear hi4 hb4
  go_wp2_with fail
  refine HSM.out.mono ?_
  rintro e w5 ⟨rfl, hb5⟩
  have HB5 := Lib.hid (HB4.out.trans (hb5.mono HB4.out.size))
  clear hb5
  go_wp2_with (go_at_call 13; refine (awake_any _).mono ?_; rintro e w6 ⟨rfl, hb6⟩)
  go_ret
  exact ⟨rfl, HB5.out.trans (hb6.mono HB5.out.size)⟩

theorem seatsLaw_any (T : Int) (ws hs : List Int) (u v : Value) (w : World) (hu : IntsAt w u ws) (hv : IntsAt w v hs) (_ : -9223372036854775808 ≤ T) (_ : T ≤ 9223372036854775807) :
    Calls Try.prog 5 #[.int .i64 T, u, v] w (Ans w) := by
  by_cases h1 : 3000 < T ∧ T ≤ 1048576
  · exact seatsLaw_many T ws hs u v w hu hv h1.1 h1.2
  · by_cases h : AllRight T ws
    · obtain ⟨n, rfl⟩ : ∃ n : Nat, T = (n : Int) := ⟨T.toNat, by have := h.1; omega⟩
      exact seatsLaw_ok n ws hs u v w hu hv (by have := h.2.1; omega) h.2.2
    · exact seatsLaw_bad T ws hs u v w hu hv h1 h
end Go.Proofs.Ytbmdbjecjiolpaa
