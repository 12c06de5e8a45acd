/-
  Seats: what it answers, for every total and all weights.
  Conditions: none.
-/
import Derived.Test.YtademjmnoncieaaQuotas
set_option linter.unusedVariables false
namespace Go.Proofs.Ytademjmnoncieaa
open Go.RowKit

theorem qs_small {T : Int} {ws : List Int} (h : Right ws) (hT0 : 0 ≤ T) (hT : T ≤ 1048576) : Small (qs T ws) := by
  refine ⟨by rw [length_qs]; exact h.1, fun x hx => ?_⟩
  obtain ⟨y, hy, rfl⟩ := List.mem_map.1 hx
  have hb := h.2.1 y hy
  have hP0 : 0 ≤ T * y := Int.mul_nonneg hT0 hb.1
  have hP1 : T * y ≤ 1048576 * 1000 := Int.mul_le_mul hT hb.2 hb.1 (by omega)
  have e0 : 0 ≤ T * y / sumL ws := Int.ediv_nonneg hP0 (Int.le_of_lt h.2.2)
  have e1 : T * y / sumL ws ≤ T * y := Int.ediv_le_self _ hP0
  exact ⟨by omega, by omega⟩

theorem seats_bad (T : Int) (ws : List Int) (v : Value) (w : World) (hu : IntsAt w v ws) (h : ¬ AllRight T ws) :
    Calls Try.prog 20 #[.int .i64 T, v] w (RetIE [] 1 w) := by
  have HC := Lib.hid (checkTotal_bad T ws v w hu h)
  clear hu h
  go_enter Try.func20, Try.ntmps20
  go_wp2_with (go_at_call 29; refine HC.out.mono ?_; rintro e w' ⟨rfl, rfl⟩)
  go_ret2
  exact ⟨_, rfl, IntsAt.nil _, Below.refl _ _⟩

def SeatsRel (ws : List Int) (sq m : Nat) (w : World) (gg : Nat) (q : Nat) (s : Value) (wr : World) : Prop :=
  ∃ k : Nat, k ≤ m ∧ q = m - k ∧ s = .int .i64 k ∧ Below w.heap.size w wr ∧ RowAt wr gg (gr ws (sq + k))

set_option maxRecDepth 100000 in
set_option maxHeartbeats 1000000 in
theorem seats_ok (n : Nat) (ws : List Int) (v : Value) (w : World) (hu : IntsAt w v ws) (h : AllRight n ws) :
    Calls Try.prog 20 #[.int .i64 n, v] w (RetIE (gr ws n) 0 w) := by
  have HC := Lib.hid (checkTotal_ok n ws v w hu h)
  have HU := Lib.hid hu
  obtain ⟨h0, h1, hr⟩ := h
  have HQ := Lib.hid (quotas_any n ws v w hu hr h0 h1)
  have HR := Lib.hid hr
  have l1 := hr.1
  obtain ⟨q0, q1⟩ := sumL_qs (T := n) hr h0
  obtain ⟨sq, hsq⟩ : ∃ sq : Nat, (sq : Int) = sumL (qs n ws) := ⟨(sumL (qs n ws)).toNat, by omega⟩
  have HG := Lib.hid (gr_qs hr h0 h1 hsq)
  have HSM := Lib.hid (qs_small hr h0 h1)
  have HSQ := Lib.hid hsq
  have hsn : sq ≤ n := by omega
  obtain ⟨m, hm⟩ : ∃ m : Nat, m = n - sq := ⟨_, rfl⟩
  have HM := Lib.hid hm
  have hmb : m ≤ 1048576 := by omega
  have e1 : ((n : Int) - (sq : Int)) = (m : Int) := by omega
  clear hu hr hsq q0 q1
  have HE := Lib.hid e1
  clear e1 hm
  go_enter Try.func20, Try.ntmps20
  go_wp2_with (go_at_call 29; refine HC.out.mono ?_; rintro e w' ⟨rfl, rfl⟩)
  refine HQ.out.mono ?_
  rintro e w1 ⟨g, h, rfl, hgh, hg1, hh1, hrow, hrow', hb1⟩
  rw [length_qs]
  have HROW := Lib.hid hrow
  have HB1 := Lib.hid hb1
  have HI : Hid (IntsAt w1 (.slice (some ⟨g, 0, none⟩) ws.length ws.length) (qs n ws)) := by
    have := hrow.ints (by rw [length_qs]; omega) ws.length
    rwa [length_qs] at this
  have HSUM := sum3_any _ _ w1 HI.out HSM.out
  rw [← HSQ.out] at HSUM
  have HSUM := Lib.hid HSUM
  have hg1' : w.heap.size ≤ g := hg1
  clear hrow hrow' hb1 hgh hh1
  go_wp2_with fail
  refine HSUM.out.mono ?_
  rintro e w2 ⟨rfl, rfl⟩
  go_wp2_with fail
  rw [HE.out]
  go_loopg [27] m (fun q s wr => SeatsRel ws sq m w g q s wr)
  case atStart => exact ⟨0, Nat.zero_le _, rfl, rfl, HB1.out, by rw [Nat.add_zero, HG.out]; exact HROW.out⟩
  case round =>
    obtain ⟨k, hk, hgk, rfl, hbw, hrow⟩ := hrel
    have HGK := Lib.hid hgk
    have HW := Lib.hid hbw
    have HRow := Lib.hid hrow
    clear hgk hbw hrow
    by_cases hlt : k < m
    · have hlt' : decide ((k : Int) < (m : Int)) = true := decide_eq_true (by omega)
      obtain ⟨b, hb, hbl, hwb⟩ := next_gr HR.out (n := sq + k) (by have := HM.out; omega)
      have HNX := Lib.hid hb
      have hglen := length_gr ws (sq + k)
      have HI2 : Hid (IntsAt wr (.slice (some ⟨g, 0, none⟩) ws.length ws.length) (gr ws (sq + k))) := by
        have := HRow.out.ints (by omega) ws.length
        rwa [hglen] at this
      have HN := next_any ws (gr ws (sq + k)) _ _ wr (HU.out.keep HW.out) HI2.out
      rw [hb] at HN
      have HN := Lib.hid HN
      obtain ⟨y, hy⟩ := ex_at (xs := gr ws (sq + k)) (k := b) (by omega)
      have HY := Lib.hid hy
      obtain ⟨y1, y2⟩ := fits_at (fits_gr ws (sq + k)) hy
      have y3 : y ≤ 2097152 := by have := HM.out; omega
      clear hb hwb hglen hy y2
      go_wp2_with fail
      refine HN.out.mono ?_
      rintro e w3 ⟨rfl, hb3⟩
      have HB3 := Lib.hid hb3
      have hrow1 := HRow.out.below hb3 HRow.out.lt
      have HRow1 := Lib.hid hrow1
      have hck := hrow1.cell HY.out
      have hfz := hrow1.frozen b
      clear hb3 hrow1
      simp only [nextV]
      go_wp2_with fail
      go_roundg (m - (k + 1))
      case measure => have := HGK.out; omega
      case rel =>
        refine ⟨k + 1, by omega, rfl, by go_num, ?_, ?_⟩
        · exact (HW.out.trans (HB3.out.mono HW.out.size)).setCell hg1' _
        · rw [← Nat.add_assoc, ← gr_step HNX.out HY.out]
          exact HRow1.out.set_ b (y + 1)
    · have hlt' : decide ((k : Int) < (m : Int)) = false := decide_eq_false (by omega)
      obtain rfl : k = m := by omega
      have HF : Hid (IntsAt wr (.slice (some ⟨g, 0, none⟩) ws.length ws.length) (gr ws n)) := by
        have := HRow.out.ints (by rw [length_gr]; omega) ws.length
        rw [length_gr, show sq + k = n by have := HM.out; omega] at this
        exact this
      go_wp2_with fail
      go_ret2
      exact ⟨_, rfl, HF.out, HW.out⟩
end Go.Proofs.Ytademjmnoncieaa
