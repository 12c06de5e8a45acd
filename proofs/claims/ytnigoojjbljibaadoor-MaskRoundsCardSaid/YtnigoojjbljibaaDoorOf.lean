/-
  The set of some ticks: the program's and the document's; a set is the set of its ticks.
  Conditions: the numbers are of their kinds.
-/
import Derived.Test.YtnigoojjbljibaaDoorTicks
set_option linter.unusedVariables false
namespace Go.Proofs.YtnigoojjbljibaaDoor
open Go.RowKit

/-- The set of the first k of a list. -/
def ofT (xs : List Int) (k : Nat) : Nat := (xs.take k).foldl withI 0
def ofI (xs : List Int) : Nat := xs.foldl withI 0
theorem ofT_zero (xs : List Int) : ofT xs 0 = 0 := rfl
theorem ofT_succ {xs : List Int} {k : Nat} {x : Int} (h : xs[k]? = some x) : ofT xs (k + 1) = withI (ofT xs k) x := by
  unfold ofT
  rw [List.take_add_one, h, List.foldl_append]
  rfl
theorem ofT_all {xs : List Int} {k : Nat} (h : xs.length ≤ k) : ofT xs k = ofI xs := by
  unfold ofT ofI
  rw [List.take_of_length_le h]
theorem ofT_lt (xs : List Int) : ∀ k, ofT xs k < 18446744073709551616
  | 0 => by rw [ofT_zero]; decide
  | k + 1 => by
    rcases Nat.lt_or_ge k xs.length with h | h
    · rw [ofT_succ (List.getElem?_eq_getElem h)]
      exact withI_lt (ofT_lt xs k)
    · have := ofT_lt xs k
      rw [ofT_all (k := k) h] at this
      rw [ofT_all (k := k + 1) (by omega)]
      exact this
theorem ofI_lt (xs : List Int) : ofI xs < 18446744073709551616 := by rw [← ofT_all (Nat.le_refl _)]; exact ofT_lt _ _
theorem of_ticks {m : Nat} (hm : m < 18446744073709551616) : ofI (ticksI m 64) = m := by
  have key : ∀ k, k ≤ cnt m → ofT (ticksI m 64) k = lowN m k := by
    intro k
    induction k with
    | zero => intro _; rw [ofT_zero, lowN_zero]
    | succ k ih =>
      intro hk
      obtain ⟨x, hx⟩ := ex_at (xs := ticksI m 64) (k := k) (by rw [ticksI_length]; exact hk)
      obtain ⟨j, rfl, hj⟩ := ticksI_get hx
      rw [ofT_succ hx, ih (by omega), withI_nat ((tick_iff m k j).1 hj).1, lowN_succ hj]
  have h := key (cnt m) (Nat.le_refl _)
  rw [ofT_all (by rw [ticksI_length]; exact Nat.le_refl _), lowN_all m (Nat.le_refl _) hm] at h
  exact h

def OfRel (xs : List Int) (s i : Value) : Prop := ∃ k : Nat, k ≤ xs.length ∧ i = .int .i64 k ∧ s = .int .u64 (ofT xs k)

set_option maxHeartbeats 1000000 in
theorem of_any (xs : List Int) (v : Value) (w : World) (hs : IntsAt w v xs) : Calls Tryd.prog 18 #[v] w (Ret (.int .u64 (ofI xs)) w) := by
  obtain ⟨A, c, rfl, hl, hat⟩ := hs
  have HA := Lib.hid hat
  clear hat
  go_enter Tryd.func18, Tryd.ntmps18
  go_wp2
  go_loop [3, 8] (fun s i => OfRel xs s i) (fun _ i => xs.length - (intOf i).toNat)
  case atStart => exact ⟨0, Nat.zero_le _, rfl, by rw [ofT_zero]; rfl⟩
  case round =>
    obtain ⟨k, hk, rfl, rfl⟩ := hrel
    by_cases hlt : k < xs.length
    · obtain ⟨x, hx⟩ := ex_at hlt
      obtain ⟨b, off, rfl, hb, hc⟩ := HA.out (by omega)
      have hck := hc k x hx
      have HX := Lib.hid (ofT_succ hx)
      have hm := ofT_lt xs k
      clear hc hx
      have HR := Lib.hid (inRange_any x w)
      by_cases h : 0 ≤ x ∧ x < 64
      · obtain ⟨T, rfl⟩ := Int.eq_ofNat_of_zero_le h.1
        have hT : T < 64 := by omega
        rw [decide_eq_true h] at HR
        have ho := or_word hm hT
        rw [withI_nat hT] at HX
        generalize ofT xs k = y at *
        generalize withN y T = z at *
        clear h
        go_wp2_with (go_at_call 35; refine HR.out.mono ?_; rintro e w' ⟨rfl, rfl⟩)
        go_round
        case rel => exact ⟨k + 1, by omega, by go_num, by rw [HX.out]⟩
        case measure => simp [intOf]; omega
      · rw [decide_eq_false h] at HR
        rw [withI_out h] at HX
        generalize ofT xs k = y at *
        clear h
        go_wp2_with (go_at_call 35; refine HR.out.mono ?_; rintro e w' ⟨rfl, rfl⟩)
        go_round
        case rel => exact ⟨k + 1, by omega, by go_num, by rw [HX.out]⟩
        case measure => simp [intOf]; omega
    · have HE := Lib.hid (ofT_all (xs := xs) (k := k) (by omega))
      go_wp2
      go_ret
      exact ⟨ret_nat HE.out, rfl⟩

set_option maxHeartbeats 1000000 in
theorem refOf_any (xs : List Int) (v : Value) (w : World) (hs : IntsAt w v xs) : Calls Tryd.prog 19 #[v] w (Ret (.int .u64 (ofI xs)) w) := by
  obtain ⟨A, c, rfl, hl, hat⟩ := hs
  have HA := Lib.hid hat
  clear hat
  go_enter Tryd.func19, Tryd.ntmps19
  go_wp2
  go_loop [3, 4] (fun s i => OfRel xs s i) (fun _ i => xs.length - (intOf i).toNat)
  case atStart => exact ⟨0, Nat.zero_le _, rfl, by rw [ofT_zero]; rfl⟩
  case round =>
    obtain ⟨k, hk, rfl, rfl⟩ := hrel
    by_cases hlt : k < xs.length
    · obtain ⟨x, hx⟩ := ex_at hlt
      obtain ⟨b, off, rfl, hb, hc⟩ := HA.out (by omega)
      have hck := hc k x hx
      have HX := Lib.hid (ofT_succ hx)
      have HW := Lib.hid (with_any (ofT xs k) x w (ofT_lt xs k))
      clear hc hx
      rw [← HX.out] at HW
      clear HX
      generalize hz : ofT xs (k + 1) = z at *
      have HZ := Lib.hid hz
      clear hz
      generalize ofT xs k = y at *
      go_wp2_with (go_at_call 32; refine HW.out.mono ?_; rintro e w' ⟨rfl, rfl⟩)
      go_round
      case rel => exact ⟨k + 1, by omega, by go_num, by rw [HZ.out]⟩
      case measure => simp [intOf]; omega
    · have HE := Lib.hid (ofT_all (xs := xs) (k := k) (by omega))
      go_wp2
      go_ret
      exact ⟨ret_nat HE.out, rfl⟩
end Go.Proofs.YtnigoojjbljibaaDoor
