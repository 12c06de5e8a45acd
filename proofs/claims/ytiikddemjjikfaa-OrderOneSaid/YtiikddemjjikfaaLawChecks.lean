/-
  OrderChecks walked.
  Conditions: the arguments are ints, or read as wants of ints.
-/
import Derived.Test.YtiikddemjjikfaaAwake
set_option linter.unusedVariables false
namespace Go.Proofs.Ytiikddemjjikfaa
open Go.RowKit

/-- An argument: it may be of any length. -/
def ArgAt (W : World) (v : Value) (ps : List Sp) : Prop :=
  ∃ A c, v = .slice A ps.length c ∧ ps.length ≤ c ∧ c ≤ 9223372036854775807 ∧ (A = none → c = 0) ∧
    (0 < ps.length → ∃ b off, A = some ⟨b, off, none⟩ ∧ b < W.heap.size ∧ ∀ (j : Nat) (p : Sp), ps[j]? = some p → PairAt W b (off + j * 2) p)
theorem ArgAt.keep {W W' : World} {v : Value} {ps : List Sp} (h : ArgAt W v ps) (hb : Below W.heap.size W W') : ArgAt W' v ps := by
  obtain ⟨A, c, h1, h2, h3, h4, h5⟩ := h
  refine ⟨A, c, h1, h2, h3, h4, fun hn => ?_⟩
  obtain ⟨b, off, e, hlt, hc⟩ := h5 hn
  exact ⟨b, off, e, Nat.lt_of_lt_of_le hlt hb.size, fun j x hx => (hc j x hx).keep hb hlt⟩
/-- Its first ones. -/
theorem ArgAt.cut {W : World} {A : Option Addr} {n c : Nat} {ps : List Sp} (h : ArgAt W (.slice A n c) ps) (N : Nat) (hN : N ≤ 100000) : SpansAt W (.slice A (min n N) c) (ps.take N) := by
  obtain ⟨A', c', h1, h2, h3, h4, h5⟩ := h
  injection h1 with e1 e2 e3
  subst e1 e2 e3
  have hl : (ps.take N).length = min ps.length N := by rw [List.length_take, Nat.min_comm]
  have hmin : min ps.length N ≤ ps.length := Nat.min_le_left _ _
  have hmin2 : min ps.length N ≤ N := Nat.min_le_right _ _
  refine ⟨A, c, by rw [hl], by omega, by omega, h3, fun hn => ?_⟩
  obtain ⟨b, off, e, hlt, hc⟩ := h5 (by omega)
  refine ⟨b, off, e, hlt, fun j p hj => hc j p ?_⟩
  rw [List.getElem?_take] at hj
  split at hj
  · exact hj
  · cases hj

set_option maxRecDepth 100000 in
set_option maxHeartbeats 4000000 in
theorem checks_law (f : Int) (v : Value) (ps : List Sp) (w : World) (h : ArgAt w v ps) (hi : IntsS ps) :
    Calls Try.prog 4 #[.int .i64 f, v] w (RetB (.bool true) w) := by
  have HAW := Lib.hid (fun W => awake_any W)
  have harg := h
  obtain ⟨A, c, rfl, hc1, hc2, hnil, _⟩ := h
  have HS := Lib.hid (harg.cut 100 (by decide))
  have HI := Lib.hid (hi.take 100)
  have hm : min (ps.length : Int) 100 = ((min ps.length 100 : Nat) : Int) := by omega
  have hmle : min ps.length 100 ≤ ps.length := Nat.min_le_left _ _
  generalize ps.take 100 = qs at *
  generalize ps.length = n at *
  generalize min n 100 = m at *
  have hmc : (m : Int) ≤ (c : Int) := by omega
  have hm0 : (0 : Int) ≤ (m : Int) := by omega
  have HT := Lib.hid (fun v w h => total_any v qs w h HI.out)
  have HRT := Lib.hid (fun v w h => refTotal_any v qs w h HI.out)
  have HC := Lib.hid (fun v w h => check_any f v qs w h HI.out)
  have HRC := Lib.hid (fun v w h => refCheck_any f v qs w h HI.out)
  obtain ⟨R, hR⟩ : ∃ R, chkT f qs = R := ⟨_, rfl⟩
  obtain ⟨O, hO⟩ : ∃ O, totT qs = O := ⟨_, rfl⟩
  rw [hR] at HC HRC
  rw [hO] at HT HRT
  have hrr : (R == R) = true := by simp
  clear harg hi hnil hR hO
  cases O with
  | none =>
    have HT' : Hid (∀ v w, SpansAt w v qs → Calls Try.prog 12 #[v] w (RetB (.tuple #[.int .i64 0, .int .i64 5]) w)) := HT.out
    have HRT' : Hid (∀ v w, SpansAt w v qs → Calls Try.prog 13 #[v] w (RetB (.tuple #[.int .i64 0, .bool false]) w)) := HRT.out
    clear HT HRT
    go_enter Try.func4, Try.ntmps4
    go_wp2_with fail
    refine (HT'.out _ _ HS.out).mono ?_
    rintro e w1 ⟨rfl, hb1⟩
    have HB := Lib.hid hb1
    replace HS := Lib.hid (HS.out.keep hb1)
    clear hb1
    go_wp2_with fail
    refine (HRT'.out _ _ HS.out).mono ?_
    rintro e w2 ⟨rfl, hb2⟩
    replace HB := Lib.hid (HB.out.trans (hb2.mono HB.out.size))
    replace HS := Lib.hid (HS.out.keep hb2)
    clear hb2
    go_wp2_with fail
    refine (HC.out _ _ HS.out).mono ?_
    rintro e w3 ⟨rfl, hb3⟩
    replace HB := Lib.hid (HB.out.trans (hb3.mono HB.out.size))
    replace HS := Lib.hid (HS.out.keep hb3)
    clear hb3
    go_wp2_with fail
    refine (HRC.out _ _ HS.out).mono ?_
    rintro e w4 ⟨rfl, hb4⟩
    replace HB := Lib.hid (HB.out.trans (hb4.mono HB.out.size))
    replace HS := Lib.hid (HS.out.keep hb4)
    clear hb4
    go_wp2_with fail
    refine (HAW.out _).mono ?_
    rintro e w5 ⟨rfl, hb5⟩
    replace HB := Lib.hid (HB.out.trans (hb5.mono HB.out.size))
    clear hb5
    go_wp2
    go_ret
    exact ⟨rfl, HB.out⟩
  | some t =>
    have HT' : Hid (∀ v w, SpansAt w v qs → Calls Try.prog 12 #[v] w (RetB (.tuple #[.int .i64 t, .int .i64 0]) w)) := HT.out
    have HRT' : Hid (∀ v w, SpansAt w v qs → Calls Try.prog 13 #[v] w (RetB (.tuple #[.int .i64 t, .bool true]) w)) := HRT.out
    clear HT HRT
    have htt : (t != t) = false := by simp
    go_enter Try.func4, Try.ntmps4
    go_wp2_with fail
    refine (HT'.out _ _ HS.out).mono ?_
    rintro e w1 ⟨rfl, hb1⟩
    have HB := Lib.hid hb1
    replace HS := Lib.hid (HS.out.keep hb1)
    clear hb1
    go_wp2_with fail
    refine (HRT'.out _ _ HS.out).mono ?_
    rintro e w2 ⟨rfl, hb2⟩
    replace HB := Lib.hid (HB.out.trans (hb2.mono HB.out.size))
    replace HS := Lib.hid (HS.out.keep hb2)
    clear hb2
    go_wp2_with fail
    refine (HC.out _ _ HS.out).mono ?_
    rintro e w3 ⟨rfl, hb3⟩
    replace HB := Lib.hid (HB.out.trans (hb3.mono HB.out.size))
    replace HS := Lib.hid (HS.out.keep hb3)
    clear hb3
    go_wp2_with fail
    refine (HRC.out _ _ HS.out).mono ?_
    rintro e w4 ⟨rfl, hb4⟩
    replace HB := Lib.hid (HB.out.trans (hb4.mono HB.out.size))
    replace HS := Lib.hid (HS.out.keep hb4)
    clear hb4
    go_wp2_with fail
    refine (HAW.out _).mono ?_
    rintro e w5 ⟨rfl, hb5⟩
    replace HB := Lib.hid (HB.out.trans (hb5.mono HB.out.size))
    clear hb5
    go_wp2
    go_ret
    exact ⟨rfl, HB.out⟩
end Go.Proofs.Ytiikddemjjikfaa
