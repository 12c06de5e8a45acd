/-
  The laws MaskRounds, MaskEnds and MaskSets: each returns true for any input, and writes nothing that was there.
  Conditions: the numbers are of their kinds; the table of math/bits is as start-up lays it.
-/
import Derived.Test.YtnigoojjbljibaaDoorAwake
import Derived.Test.YtnigoojjbljibaaDoorSame
set_option linter.unusedVariables false
namespace Go.Proofs.YtnigoojjbljibaaDoor
open Go.RowKit

set_option maxRecDepth 100000 in
set_option maxHeartbeats 2000000 in
theorem roundsLaw_any (f d n : Int) (m : Nat) (w : World) (hm : m < 18446744073709551616) (hT : Tab w) :
    Calls Tryd.prog 4 #[.int .i64 f, .int .i64 d, .int .i64 n, .int .u64 m] w (Ans w) := by
  have HT := Lib.hid hT
  have H1 := Lib.hid (fun W => round_any f d n W)
  have H2 := Lib.hid (fun W => refRound_any f d n W)
  have H3 := Lib.hid (fun W => turn_any f m d W hm)
  have H4 := Lib.hid (fun W => refTurn_any f m d W hm)
  generalize roundN (frN f) (frN n) (modN d (frN f)) = a at *
  generalize turnN (frN f) m (modN d (frN f)) = b at *
  have HA := Lib.hid (fun W (h : Tab W) => awake_any W h)
  clear hT
  go_enter Tryd.func4, Tryd.ntmps4
  go_wp2_with fail
  refine (H1.out _).mono ?_
  rintro e w1 ⟨rfl, hb1⟩
  have HB1 := Lib.hid hb1
  clear hb1
  go_wp2_with fail
  refine (H2.out _).mono ?_
  rintro e w' ⟨rfl, rfl⟩
  go_wp2_with fail
  refine (H3.out _).mono ?_
  rintro e w2 ⟨rfl, hb2⟩
  have HB2 := Lib.hid (HB1.out.trans (hb2.mono HB1.out.size))
  clear hb2
  go_wp2_with fail
  refine (H4.out _).mono ?_
  rintro e w' ⟨rfl, rfl⟩
  go_wp2_with fail
  refine (HA.out _ (HT.out.later HB2.out)).mono ?_
  rintro e w3 ⟨rfl, hb3⟩
  go_wp2_with fail
  go_ret
  exact ⟨rfl, HB2.out.trans (hb3.mono HB2.out.size)⟩

set_option maxRecDepth 100000 in
set_option maxHeartbeats 2000000 in
theorem endsLaw_of (m : Nat) (k t : Int) (v : Int) (ok : Bool) (w : World) (hm : m < 18446744073709551616) (hk : k ≤ 9223372036854775807) (hT : Tab w)
    (hn : ∀ W, Tab W → Calls Tryd.prog 24 #[.int .u64 m, .int .i64 t] W (RetB (.tuple #[.int .i64 v, .bool ok]) W))
    (hr : ∀ W, Calls Tryd.prog 25 #[.int .u64 m, .int .i64 t] W (RetB (.tuple #[.int .i64 v, .bool ok]) W)) :
    Calls Tryd.prog 5 #[.int .u64 m, .int .i64 k, .int .i64 t] w (Ans w) := by
  have HT := Lib.hid hT
  have HN := Lib.hid hn
  have HR := Lib.hid hr
  have H1 := Lib.hid (fun W => lowest_any m k W hm)
  have H2 := Lib.hid (fun W => refLowest_any m k W hm)
  have H3 := Lib.hid (fun W => highest_any m k W hm hk)
  have H4 := Lib.hid (fun W => refHighest_any m k W hm)
  generalize lowN m (takN m k) = a at *
  generalize highN m (leftN m k) = b at *
  have HA := Lib.hid (fun W (h : Tab W) => awake_any W h)
  have hok : (ok == ok) = true := by cases ok <;> rfl
  clear hT hn hr
  go_enter Tryd.func5, Tryd.ntmps5
  go_wp2_with fail
  refine (HN.out _ HT.out).mono ?_
  rintro e w1 ⟨rfl, hb1⟩
  have HB1 := Lib.hid hb1
  clear hb1
  go_wp2_with fail
  refine (HR.out _).mono ?_
  rintro e w2 ⟨rfl, hb2⟩
  have HB2 := Lib.hid (HB1.out.trans (hb2.mono HB1.out.size))
  clear hb2 HB1
  go_wp2_with fail
  refine (H1.out _).mono ?_
  rintro e w' ⟨rfl, rfl⟩
  go_wp2_with fail
  refine (H2.out _).mono ?_
  rintro e w3 ⟨rfl, hb3⟩
  have HB3 := Lib.hid (HB2.out.trans (hb3.mono HB2.out.size))
  clear hb3 HB2
  go_wp2_with fail
  refine (H3.out _).mono ?_
  rintro e w' ⟨rfl, rfl⟩
  go_wp2_with fail
  refine (H4.out _).mono ?_
  rintro e w4 ⟨rfl, hb4⟩
  have HB4 := Lib.hid (HB3.out.trans (hb4.mono HB3.out.size))
  clear hb4 HB3
  go_wp2_with fail
  refine (HA.out _ (HT.out.later HB4.out)).mono ?_
  rintro e w5 ⟨rfl, hb5⟩
  go_wp2_with fail
  go_ret
  exact ⟨rfl, HB4.out.trans (hb5.mono HB4.out.size)⟩

theorem endsLaw_any (m : Nat) (k t : Int) (w : World) (hm : m < 18446744073709551616) (hk : k ≤ 9223372036854775807) (hT : Tab w) :
    Calls Tryd.prog 5 #[.int .u64 m, .int .i64 k, .int .i64 t] w (Ans w) := by
  by_cases h0 : m = 0
  · subst h0
    exact endsLaw_of 0 k t 0 false w hm hk hT (fun W _ => next_none t W) (fun W => refNext_none t W)
  · exact endsLaw_of m k t (nextN m t) true w hm hk hT (fun W h => next_some m t W hm h0 h) (fun W => refNext_some m t W hm h0)

set_option maxRecDepth 100000 in
set_option maxHeartbeats 2000000 in
theorem setsLaw_any (m : Nat) (f t : Int) (xs : List Int) (v : Value) (w : World) (hx : IntsAt w v xs) (hm : m < 18446744073709551616) (hT : Tab w) :
    Calls Tryd.prog 3 #[.int .u64 m, .int .i64 f, .int .i64 t, v] w (Ans w) := by
  have HT := Lib.hid hT
  have HX := Lib.hid hx
  have HA := Lib.hid (fun W (h : Tab W) => awake_any W h)
  obtain ⟨A, c, rfl, hl, _⟩ := hx
  clear hT
  by_cases h200 : 200 < xs.length
  · go_enter Tryd.func3, Tryd.ntmps3
    go_wp2_with fail
    refine (HA.out _ HT.out).mono ?_
    rintro e w1 ⟨rfl, hb1⟩
    go_wp2_with fail
    go_ret
    exact ⟨rfl, hb1⟩
  · have h200' : decide ((200 : Int) < (xs.length : Int)) = false := decide_eq_false (by omega)
    have hle : xs.length ≤ 200 := by omega
    have H1 := Lib.hid (fun W => all_any f W)
    have H2 := Lib.hid (fun W => refAll_any f W)
    have H3 := Lib.hid (fun W => has_any m t W hm)
    have H4 := Lib.hid (fun W => refHas_any m t W hm)
    have H5 := Lib.hid (fun W => count_any m W hm)
    have H6 := Lib.hid (fun W => refCount_any m W hm)
    have H7 := Lib.hid (fun W => ticks_any m W hm (fun W => count_any m W hm))
    have H8 := Lib.hid (fun W => refTicks_any m W hm)
    have H9 := Lib.hid (fun W u v (hu : IntsAt W u (ticksI m 64)) (hv : IntsAt W v (ticksI m 64)) => (by have := same_any _ _ u v W hu hv; rwa [decide_eq_true rfl] at this : Calls Tryd.prog 15 #[u, v] W (RetB (.bool true) W)))
    have H10 := Lib.hid (fun W u (hu : IntsAt W u xs) => of_any xs u W hu)
    have H11 := Lib.hid (fun W u (hu : IntsAt W u xs) => refOf_any xs u W hu)
    have H12 := Lib.hid (fun W u (hu : IntsAt W u (ticksI m 64)) => (by have := of_any _ u W hu; rwa [of_ticks hm] at this : Calls Tryd.prog 18 #[u] W (Ret (.int .u64 m) W)))
    generalize allN (frN f) = al at *
    generalize hb : hasB m t = b at *
    have hbb : (b == b) = true := by cases b <;> rfl
    generalize ticksI m 64 = ts at *
    generalize cnt m = cn at *
    generalize ofI xs = o at *
    clear hb
    go_enter Tryd.func3, Tryd.ntmps3
    go_wp2_with fail
    refine (H1.out _).mono ?_
    rintro e w' ⟨rfl, rfl⟩
    go_wp2_with fail
    refine (H2.out _).mono ?_
    rintro e w' ⟨rfl, rfl⟩
    go_wp2_with fail
    refine (H3.out _).mono ?_
    rintro e w' ⟨rfl, rfl⟩
    go_wp2_with fail
    refine (H4.out _).mono ?_
    rintro e w' ⟨rfl, rfl⟩
    go_wp2_with fail
    refine (H5.out _).mono ?_
    rintro e w' ⟨rfl, rfl⟩
    go_wp2_with fail
    refine (H6.out _).mono ?_
    rintro e w1 ⟨rfl, hb1⟩
    have HB1 := Lib.hid hb1
    clear hb1
    go_wp2_with fail
    refine (H7.out _).mono ?_
    rintro e w2 ⟨v2, rfl, hi2, hb2⟩
    have HB2 := Lib.hid (HB1.out.trans (hb2.mono HB1.out.size))
    have HI2 := Lib.hid hi2
    clear hb2 HB1 hi2
    go_wp2_with fail
    refine (H8.out _).mono ?_
    rintro e w3 ⟨v3, rfl, hi3, hb3⟩
    have HB3 := Lib.hid (HB2.out.trans (hb3.mono HB2.out.size))
    have HI3 := Lib.hid hi3
    have HI2' := Lib.hid (HI2.out.keep hb3)
    clear hb3 HB2 hi3 HI2
    go_wp2_with fail
    refine (H9.out _ _ _ HI2'.out HI3.out).mono ?_
    rintro e w4 ⟨rfl, hb4⟩
    have HB4 := Lib.hid (HB3.out.trans (hb4.mono HB3.out.size))
    clear hb4 HB3
    go_wp2_with fail
    refine (H10.out _ _ (HX.out.keep HB4.out)).mono ?_
    rintro e w' ⟨rfl, rfl⟩
    go_wp2_with fail
    refine (H11.out _ _ (HX.out.keep HB4.out)).mono ?_
    rintro e w' ⟨rfl, rfl⟩
    go_wp2_with fail
    refine (H7.out _).mono ?_
    rintro e w5 ⟨v5, rfl, hi5, hb5⟩
    have HB5 := Lib.hid (HB4.out.trans (hb5.mono HB4.out.size))
    have HI5 := Lib.hid hi5
    clear hb5 HB4 hi5
    go_wp2_with fail
    refine (H12.out _ _ HI5.out).mono ?_
    rintro e w' ⟨rfl, rfl⟩
    go_wp2_with fail
    refine (HA.out _ (HT.out.later HB5.out)).mono ?_
    rintro e w6 ⟨rfl, hb6⟩
    go_wp2_with fail
    go_ret
    exact ⟨rfl, HB5.out.trans (hb6.mono HB5.out.size)⟩
end Go.Proofs.YtnigoojjbljibaaDoor
