/-
  The document's Lowest, Highest and Next; both Of; the program's Next, with math/bits.TrailingZeros64.
  Conditions: the numbers are of their kinds; the table of math/bits as start-up lays it, where it is read.
-/
import Derived.Test.YtnigoojjbljibaaDoorTicks
import Derived.Test.YtnigoojjbljibaaDoorCount
set_option linter.unusedVariables false
namespace Go.Proofs.YtnigoojjbljibaaDoor
open Go.RowKit

def LowRel2 (m : Nat) (T : Nat) (s i : Value) : Prop := ∃ j : Nat, j ≤ T ∧ i = .int .i64 j ∧ s = .int .u64 (lowN m j)

set_option maxRecDepth 100000 in
set_option maxHeartbeats 1000000 in
theorem refLowest_any (m : Nat) (k : Int) (w : World) (hm : m < 18446744073709551616) : Calls Tryd.prog 27 #[.int .u64 m, .int .i64 k] w (RetB (.int .u64 (lowN m (takN m k))) w) := by
  have HT := Lib.hid (refTicks_any m w hm)
  have hc64 := cnt_le m
  have HN : Hid (∀ j : Nat, j < takN m k ↔ (j < cnt m ∧ (j : Int) < k)) := by unfold Hid takN; omega
  have HG := Lib.hid (fun (i : Nat) (x : Int) (h : (ticksI m 64)[i]? = some x) => ticksI_get h)
  have HLEN := Lib.hid (ticksI_length m 64)
  have e64 : cntT m 64 = cnt m := rfl
  rw [e64] at HLEN
  go_enter Tryd.func27, Tryd.ntmps27
  go_wp2_with fail
  refine HT.out.mono ?_
  rintro e w1 ⟨v, rfl, hi, hb⟩
  have HB := Lib.hid hb
  obtain ⟨A, cc, rfl, _, hat⟩ := hi
  have HA := Lib.hid hat
  rw [HLEN.out]
  clear hb hat e64
  go_wp2_with fail
  go_loop [5, 7] (fun s i => LowRel2 m (takN m k) s i) (fun _ i => takN m k - (intOf i).toNat)
  case atStart => exact ⟨0, Nat.zero_le _, rfl, by rw [lowN_zero]; rfl⟩
  case round =>
    obtain ⟨j, hj, rfl, rfl⟩ := hrel
    by_cases hlt : j < takN m k
    · obtain ⟨h1, h2⟩ := (HN.out j).1 hlt
      have h2' : decide ((j : Int) < k) = true := decide_eq_true h2
      obtain ⟨x, hx⟩ := ex_at (xs := ticksI m 64) (k := j) (by rw [HLEN.out]; exact h1)
      obtain ⟨t, rfl, ht⟩ := HG.out j x hx
      obtain ⟨b, o, rfl, hbs, hc⟩ := HA.out (by rw [HLEN.out]; omega)
      have hck := hc j _ hx
      have ht64 := ((tick_iff m j t).1 ht).1
      have HW := Lib.hid (fun W => with_any (lowN m j) (t : Int) W (low_lt _ _))
      rw [withI_nat ht64, lowN_succ ht] at HW
      generalize hy : lowN m (j + 1) = y at *
      have HY := Lib.hid hy
      clear hc hx ht hy ht64
      generalize lowN m j = z at *
      generalize cnt m = c at *
      go_wp2_with (go_at_call 32; refine (HW.out _).mono ?_; rintro e w' ⟨rfl, rfl⟩)
      go_round
      case rel => exact ⟨j + 1, by omega, by go_num, by rw [HY.out]⟩
      case measure => simp [intOf]; omega
    · have hjt : j = takN m k := by omega
      have HE := Lib.hid (show lowN m j = lowN m (takN m k) by rw [hjt])
      by_cases h1 : j < cnt m
      · have h2 : ¬ (j : Int) < k := fun h => hlt ((HN.out j).2 ⟨h1, h⟩)
        have h2' : decide ((j : Int) < k) = false := decide_eq_false h2
        generalize cnt m = c at *
        clear hjt
        go_wp2_with fail
        go_ret
        exact ⟨ret_nat HE.out, HB.out⟩
      · generalize cnt m = c at *
        clear hjt
        go_wp2_with fail
        go_ret
        exact ⟨ret_nat HE.out, HB.out⟩

/-- j places of c, from the end on. -/
def HighRel (m c T : Nat) (s n i : Value) : Prop := ∃ j : Nat, j ≤ T ∧ n = .int .i64 j ∧ i = .int .i64 ((c : Int) - 1 - j) ∧ s = .int .u64 (highN m (c - j))

set_option maxRecDepth 100000 in
set_option maxHeartbeats 1000000 in
theorem refHighest_any (m : Nat) (k : Int) (w : World) (hm : m < 18446744073709551616) : Calls Tryd.prog 29 #[.int .u64 m, .int .i64 k] w (RetB (.int .u64 (highN m (leftN m k))) w) := by
  have HT := Lib.hid (refTicks_any m w hm)
  have hc64 := cnt_le m
  have HN : Hid (∀ j : Nat, j < takN m k ↔ (j < cnt m ∧ (j : Int) < k)) := by unfold Hid takN; omega
  have HG := Lib.hid (fun (i : Nat) (x : Int) (h : (ticksI m 64)[i]? = some x) => ticksI_get h)
  have HLEN := Lib.hid (ticksI_length m 64)
  have e64 : cntT m 64 = cnt m := rfl
  rw [e64] at HLEN
  have HZ := Lib.hid (highN_cnt m)
  have HLF := Lib.hid (show leftN m k = cnt m - takN m k from rfl)
  clear e64
  go_enter Tryd.func29, Tryd.ntmps29
  go_wp2_with fail
  refine HT.out.mono ?_
  rintro e w1 ⟨v, rfl, hi, hb⟩
  have HB := Lib.hid hb
  obtain ⟨A, cc, rfl, _, hat⟩ := hi
  have HA := Lib.hid hat
  rw [HLEN.out]
  clear hb hat
  generalize hcc : cnt m = c at *
  clear hcc
  go_wp2_with fail
  go_loop [5, 7, 8] (fun s n i => HighRel m c (takN m k) s n i) (fun _ n _ => takN m k - (intOf n).toNat)
  case atStart => exact ⟨0, Nat.zero_le _, rfl, by go_num, by rw [Nat.sub_zero, HZ.out]; rfl⟩
  case round =>
    obtain ⟨j, hj, rfl, rfl, rfl⟩ := hrel
    by_cases hlt : j < takN m k
    · obtain ⟨h1, h2⟩ := (HN.out j).1 hlt
      have h2' : decide ((j : Int) < k) = true := decide_eq_true h2
      obtain ⟨q, hq⟩ : ∃ q : Nat, q = c - 1 - j := ⟨_, rfl⟩
      have e1 : (c : Int) - 1 - j = q := by omega
      have e2 : c - j = q + 1 := by omega
      have e3 : c - (j + 1) = q := by omega
      have e4 : (c : Int) - 1 - (j + 1 : Nat) = (q : Int) - 1 := by omega
      have HE3 := Lib.hid e3
      have HE4 := Lib.hid e4
      have hqc : q < c := by omega
      rw [e1, e2]
      obtain ⟨x, hx⟩ := ex_at (xs := ticksI m 64) (k := q) (by rw [HLEN.out]; exact hqc)
      obtain ⟨t, rfl, ht⟩ := HG.out q x hx
      obtain ⟨b, o, rfl, hbs, hc⟩ := HA.out (by rw [HLEN.out]; omega)
      have hck := hc q _ hx
      have ht64 := ((tick_iff m q t).1 ht).1
      have HW := Lib.hid (fun W => with_any (highN m (q + 1)) (t : Int) W (high_lt _ _))
      rw [withI_nat ht64, highN_pred ht] at HW
      generalize hy : highN m q = y at *
      have HY := Lib.hid hy
      clear hc hx ht hy ht64 e1 e2 e3 e4 hq
      generalize highN m (q + 1) = z at *
      go_wp2_with (go_at_call 32; refine (HW.out _).mono ?_; rintro e w' ⟨rfl, rfl⟩)
      go_round
      case rel => exact ⟨j + 1, by omega, by go_num, by rw [HE4.out], by rw [HE3.out, HY.out]⟩
      case measure => simp [intOf]; omega
    · have hjt : j = takN m k := by omega
      have HE := Lib.hid (show highN m (c - j) = highN m (leftN m k) by rw [HLF.out, hjt])
      by_cases h1 : j < c
      · have h2 : ¬ (j : Int) < k := fun h => hlt ((HN.out j).2 ⟨h1, h⟩)
        have h2' : decide ((j : Int) < k) = false := decide_eq_false h2
        have h3 : (0 : Int) ≤ (c : Int) - 1 - j := by omega
        clear hjt
        go_wp2_with fail
        go_ret
        exact ⟨ret_nat HE.out, HB.out⟩
      · have h3 : decide ((0 : Int) ≤ (c : Int) - 1 - j) = false := decide_eq_false (by omega)
        clear hjt
        go_wp2_with fail
        go_ret
        exact ⟨ret_nat HE.out, HB.out⟩
end Go.Proofs.YtnigoojjbljibaaDoor
