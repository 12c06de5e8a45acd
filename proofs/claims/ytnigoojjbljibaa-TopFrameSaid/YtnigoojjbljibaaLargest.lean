/-
  Largest: what it answers, for every total and all weights.
  Conditions: none.
-/
import Derived.Test.YtnigoojjbljibaaLargestMath
set_option linter.unusedVariables false
namespace Go.Proofs.Ytnigoojjbljibaa
open Go.RowKit

/-- A list by largest rests, made by the call. -/
def RetL (T : Int) (ws : List Int) (w : World) (e : Ending) (w' : World) : Prop := ∃ v l, e = .returned (.tuple #[v, .int .i64 0]) ∧ IsLargest T ws l ∧ IntsAt w' v l ∧ Below w.heap.size w w'

theorem largest_bad (T : Int) (ws : List Int) (v : Value) (w : World) (hu : IntsAt w v ws) (h : ¬ AllRight T ws) :
    Calls Try.prog 4 #[.int .i64 T, v] w (RetIE [] 1 w) := by
  have HC := Lib.hid (checkTotal_bad T ws v w hu h)
  clear hu h
  go_enter Try.func4, Try.ntmps4
  go_wp2_with (go_at_call 9; refine HC.out.mono ?_; rintro e w' ⟨rfl, rfl⟩)
  go_ret2
  exact ⟨_, rfl, IntsAt.nil _, Below.refl _ _⟩

def LargeRel (T : Int) (ws : List Int) (d : Nat → Nat) (m : Nat) (w : World) (gs gi : Nat) (q : Nat) (s : Value) (wr : World) : Prop :=
  ∃ k : Nat, k ≤ m ∧ q = m - k ∧ s = .int .i64 k ∧ Below w.heap.size w wr ∧ RowAt wr gs (ad (qs T ws) d k) ∧ RowAt wr gi (lst ws.length d)

set_option maxRecDepth 100000 in
set_option maxHeartbeats 1000000 in
theorem largest_ok (T : Int) (ws : List Int) (v : Value) (w : World) (hu : IntsAt w v ws) (h : AllRight T ws) :
    Calls Try.prog 4 #[.int .i64 T, v] w (RetL T ws w) := by
  have HC := Lib.hid (checkTotal_ok T ws v w hu h)
  obtain ⟨h0, h1, hr⟩ := h
  have HQ := Lib.hid (quotas_any T ws v w hu hr h0 h1)
  have HR := Lib.hid hr
  have l1 := hr.1
  obtain ⟨q0, q1⟩ := sumL_qs (T := T) hr h0
  obtain ⟨m, hm⟩ : ∃ m : Nat, (m : Int) = T - sumL (qs T ws) := ⟨(T - sumL (qs T ws)).toNat, by omega⟩
  have hmn := left_lt hr hm
  have HM := Lib.hid hm
  have HSM := Lib.hid (qs_small hr h0 h1)
  obtain ⟨sq, hsq⟩ : ∃ sq : Int, sq = sumL (qs T ws) := ⟨_, rfl⟩
  rw [← hsq] at q0 q1
  clear hu hr
  have HE := Lib.hid (show T - sq = (m : Int) by rw [hsq]; omega)
  have HSQ := Lib.hid hsq
  clear hm hsq
  go_enter Try.func4, Try.ntmps4
  go_wp2_with (go_at_call 9; refine HC.out.mono ?_; rintro e w' ⟨rfl, rfl⟩)
  refine HQ.out.mono ?_
  rintro e w1 ⟨g, h, rfl, hgh, hg1, hh1, hrow, hrow', hb1⟩
  rw [length_qs]
  have HROW := Lib.hid hrow
  have HB1 := Lib.hid hb1
  have HI : Hid (IntsAt w1 (.slice (some ⟨g, 0, none⟩) ws.length ws.length) (qs T ws)) := by
    have := hrow.ints (by rw [length_qs]; omega) ws.length
    rwa [length_qs] at this
  have HI2 : Hid (IntsAt w1 (.slice (some ⟨h, 0, none⟩) ws.length ws.length) (rs T ws)) := by
    have := hrow'.ints (by rw [length_rs]; omega) ws.length
    rwa [length_rs] at this
  have HSUM := sum_any _ _ w1 HI.out HSM.out
  rw [← HSQ.out] at HSUM
  have HSUM := Lib.hid HSUM
  have HGR := Lib.hid (greatest_any (rs T ws) _ w1 HI2.out (by rw [length_rs]; exact l1))
  have hg1' : w.heap.size ≤ g := hg1
  have hgs := hrow.lt
  clear hrow hrow' hb1 hgh hh1
  go_wp2_with fail
  refine HSUM.out.mono ?_
  rintro e w2 ⟨rfl, rfl⟩
  go_wp2_with fail
  rw [HE.out]
  refine HGR.out.mono ?_
  rintro e w3 ⟨gi, d, rfl, hgi, hrow3, hd, hb3⟩
  rw [length_rs] at hrow3 hd ⊢
  have HRI := Lib.hid hrow3
  have HD := Lib.hid hd
  have HB3 := Lib.hid hb3
  have HRS := Lib.hid (HROW.out.below hb3 hgs)
  have hmn' : (m : Int) ≤ (ws.length : Int) := by omega
  have hm64 : m ≤ 64 := by omega
  clear hrow3 hd hb3
  go_wp2_with fail
  go_loopg [33] m (fun q s wr => LargeRel T ws d m w g gi q s wr)
  case atStart => exact ⟨0, Nat.zero_le _, rfl, rfl, HB1.out.trans (HB3.out.mono HB1.out.size), HRS.out, HRI.out⟩
  case round =>
    obtain ⟨k, hk, hq, rfl, hbw, hrow, hrowi⟩ := hrel
    have HK := Lib.hid hq
    have HW := Lib.hid hbw
    have HRow := Lib.hid hrow
    have HRowI := Lib.hid hrowi
    clear hq hbw hrow hrowi
    by_cases hlt : k < m
    · obtain ⟨t, hinv⟩ := HD.out.inv
      obtain ⟨x, hx⟩ : ∃ x, x = d k := ⟨_, rfl⟩
      have hxn : x < ws.length := by rw [hx]; exact hinv.dn k (by omega)
      have hck1 : wr.cell? ⟨gi, k, none⟩ = some (.int .i64 (x : Int)) := HRowI.out.cell (by rw [hx]; exact lst_at d (by omega))
      obtain ⟨y, hy⟩ := ex_at (xs := ad (qs T ws) d k) (k := x) (by rw [length_ad, length_qs]; exact hxn)
      have hyb : 0 ≤ y ∧ y ≤ 1048576001 := by
        have e1 := ad_getD hinv (length_qs T ws) k (by omega) x hxn
        rw [getD_of hy, qs_getD] at e1
        have hb := HR.out.getD x
        have hP0 : 0 ≤ T * ws.getD x 0 := Int.mul_nonneg h0 hb.1
        have hP1 : T * ws.getD x 0 ≤ 1048576 * 1000 := Int.mul_le_mul h1 hb.2 hb.1 (by omega)
        have e2 : 0 ≤ T * ws.getD x 0 / sumL ws := Int.ediv_nonneg hP0 (Int.le_of_lt HR.out.2.2)
        have e3 : T * ws.getD x 0 / sumL ws ≤ T * ws.getD x 0 := Int.ediv_le_self _ hP0
        split at e1 <;> omega
      obtain ⟨y1, y2⟩ := hyb
      have hck2 := HRow.out.cell hy
      have hf2 := HRow.out.frozen x
      have hnew : Hid (RowAt (wr.setCell ⟨g, x, none⟩ (.int .i64 (y + 1))) g (ad (qs T ws) d (k + 1))) := by
        have := HRow.out.set_ x (y + 1)
        have e : ad (qs T ws) d (k + 1) = (ad (qs T ws) d k).set x (y + 1) := by rw [ad]; simp only [bump]; rw [← hx, getD_of hy]
        rw [e]; exact this
      have hnewI := Lib.hid (show g ≠ gi → RowAt (wr.setCell ⟨g, x, none⟩ (.int .i64 (y + 1))) gi (lst ws.length d) from fun hne => HRowI.out.far (p := ⟨g, x, none⟩) (Ne.symm hne) _)
      have hne : g ≠ gi := by omega
      have HNE := Lib.hid hne
      clear hx hy hinv hne
      go_wp2_with fail
      go_roundg (m - (k + 1))
      case measure => have := HK.out; omega
      case rel => exact ⟨k + 1, by omega, rfl, by go_num, HW.out.setCell hg1' _, hnew.out, hnewI.out HNE.out⟩
    · obtain rfl : k = m := by omega
      have HF : Hid (IntsAt wr (.slice (some ⟨g, 0, none⟩) ws.length ws.length) (ad (qs T ws) d k)) := by
        have := HRow.out.ints (by rw [length_ad, length_qs]; omega) ws.length
        rwa [length_ad, length_qs] at this
      go_wp2_with fail
      go_ret2
      exact ⟨_, _, rfl, ⟨d, k, HM.out, HD.out, rfl⟩, HF.out, HW.out⟩
end Go.Proofs.Ytnigoojjbljibaa
