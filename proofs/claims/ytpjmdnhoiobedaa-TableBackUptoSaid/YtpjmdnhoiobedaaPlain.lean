/-
  The plain answers about a frame and a tick: length, Frame, All, inRange, Has, With.
  Conditions: the numbers are of their kinds.
-/
import Derived.Test.YtpjmdnhoiobedaaBase
import Derived.Test.YtpjmdnhoiobedaaSetMath
import Derived.Laws.BitsAllLaws
set_option linter.unusedVariables false
namespace Go.Proofs.Ytpjmdnhoiobedaa
open Go.RowKit

theorem ret_nat {k : IntKind} {a b : Nat} (h : a = b) : Ending.returned (.int k a) = .returned (.int k b) := by rw [h]

/-- How many ticks a frame has. -/
def frN (f : Int) : Nat := (min (max f 0) 64).toNat
theorem frN_le (f : Int) : frN f ≤ 64 := by unfold frN; omega

set_option maxHeartbeats 1000000 in
theorem length_any (f : Int) (w : World) : Calls Try.prog 96 #[.int .i64 f] w (Ret (.int .i64 (frN f)) w) := by
  go_enter Try.func96, Try.ntmps96
  go_wp2
  all_goals
    go_ret
    exact ⟨ret_int (by unfold frN; omega), rfl⟩

theorem pow_cast (k : Nat) : ((2 : Int) ^ k) = ((2 ^ k : Nat) : Int) := by simp
theorem all_word (k : Nat) (hk : k ≤ 64) : IntKind.u64.wrap (IntKind.u64.wrap (2 ^ k) - 1) = (allN k : Int) := by
  rw [pow_cast]
  unfold allN
  have h2 : 0 < 2 ^ k := Nat.two_pow_pos k
  rcases Nat.lt_or_ge k 64 with h | h
  · have h1 := pow_lt64 h
    generalize 2 ^ k = K at *
    rw [IntKind.wrap_u64, IntKind.wrap_u64]
    omega
  · have : k = 64 := by omega
    subst this
    rfl

set_option maxHeartbeats 1000000 in
theorem all_any (f : Int) (w : World) : Calls Try.prog 80 #[.int .i64 f] w (Ret (.int .u64 (allN (frN f))) w) := by
  have HL := Lib.hid (fun W => length_any f W)
  have hk := frN_le f
  generalize frN f = k at *
  go_enter Try.func80, Try.ntmps80
  go_wp2_with (go_at_call 96; refine (HL.out _).mono ?_; rintro e w' ⟨rfl, rfl⟩)
  go_ret
  exact ⟨ret_int (all_word k hk), rfl⟩

set_option maxHeartbeats 1000000 in
theorem inRange_any (t : Int) (w : World) : Calls Try.prog 73 #[.int .i64 t] w (Ret (.bool (decide (0 ≤ t ∧ t < 64))) w) := by
  by_cases h0 : 0 ≤ t
  · by_cases h1 : t < 64
    · have e : decide (0 ≤ t ∧ t < 64) = true := decide_eq_true ⟨h0, h1⟩
      rw [e]
      go_enter Try.func73, Try.ntmps73
      go_wp2
      go_ret
      exact ⟨rfl, rfl⟩
    · have e : decide (0 ≤ t ∧ t < 64) = false := decide_eq_false (fun h => h1 h.2)
      have h1' : decide (t < 64) = false := decide_eq_false h1
      rw [e]
      clear e
      go_enter Try.func73, Try.ntmps73
      go_wp2
      go_ret
      exact ⟨rfl, rfl⟩
  · have e : decide (0 ≤ t ∧ t < 64) = false := decide_eq_false (fun h => h0 h.1)
    have h1' : decide (0 ≤ t) = false := decide_eq_false h0
    rw [e]
    clear e
    go_enter Try.func73, Try.ntmps73
    go_wp2
    go_ret
    exact ⟨rfl, rfl⟩

def hasB (m : Nat) (t : Int) : Bool := decide (0 ≤ t ∧ t < 64) && m.testBit t.toNat
theorem hasB_nat {m t : Nat} (h : t < 64) : hasB m (t : Int) = m.testBit t := by
  unfold hasB
  have : decide ((0 : Int) ≤ (t : Int) ∧ (t : Int) < 64) = true := decide_eq_true ⟨by omega, by omega⟩
  rw [this, Int.toNat_natCast]
  rfl
theorem hasB_out {m : Nat} {t : Int} (h : ¬ (0 ≤ t ∧ t < 64)) : hasB m t = false := by
  unfold hasB
  rw [decide_eq_false h]
  rfl

theorem shr_bit (m t : Nat) (hm : m < 18446744073709551616) : bits BinOp.and IntKind.u64 ((m : Int) / 2 ^ t) 1 = ((m.testBit t).toNat : Int) := by
  have e1 := bits_and_u64_nat (m / 2 ^ t) 1 (Nat.lt_of_le_of_lt (Nat.div_le_self _ _) hm) (by decide)
  rw [show ((m : Int) / 2 ^ t) = ((m / 2 ^ t : Nat) : Int) by simp]
  rw [show ((1 : Nat) : Int) = 1 from rfl] at e1
  rw [e1, Nat.and_one_is_mod, Nat.testBit_eq_decide_div_mod_eq]
  rcases Nat.mod_two_eq_zero_or_one (m / 2 ^ t) with h | h <;> simp [h]
theorem shr_mod (m t : Nat) : ((m : Int) / 2 ^ t).tmod 2 = ((m.testBit t).toNat : Int) := by
  rw [Int.tmod_eq_emod_of_nonneg (by rw [show ((m : Int) / 2 ^ t) = ((m / 2 ^ t : Nat) : Int) by simp]; exact Int.natCast_nonneg _)]
  rw [show ((m : Int) / 2 ^ t % 2) = ((m / 2 ^ t % 2 : Nat) : Int) by simp, Nat.testBit_eq_decide_div_mod_eq]
  rcases Nat.mod_two_eq_zero_or_one (m / 2 ^ t) with h | h <;> simp [h]

set_option maxHeartbeats 1000000 in
theorem has_any (m : Nat) (t : Int) (w : World) (hm : m < 18446744073709551616) : Calls Try.prog 70 #[.int .u64 m, .int .i64 t] w (Ret (.bool (hasB m t)) w) := by
  have HR := Lib.hid (inRange_any t w)
  by_cases h : 0 ≤ t ∧ t < 64
  · obtain ⟨T, rfl⟩ := Int.eq_ofNat_of_zero_le h.1
    have hT : T < 64 := by omega
    rw [hasB_nat hT]
    rw [decide_eq_true h] at HR
    have e := shr_bit m T hm
    generalize m.testBit T = b at *
    clear h
    cases b
    all_goals
      simp only [Bool.toNat_true, Bool.toNat_false] at e
      go_enter Try.func70, Try.ntmps70
      go_wp2_with (go_at_call 73; refine HR.out.mono ?_; rintro e w' ⟨rfl, rfl⟩)
      go_ret
      exact ⟨rfl, rfl⟩
  · rw [hasB_out h]
    rw [decide_eq_false h] at HR
    clear h
    go_enter Try.func70, Try.ntmps70
    go_wp2_with (go_at_call 73; refine HR.out.mono ?_; rintro e w' ⟨rfl, rfl⟩)
    go_ret
    exact ⟨rfl, rfl⟩

set_option maxHeartbeats 1000000 in
theorem refHas_any (m : Nat) (t : Int) (w : World) (hm : m < 18446744073709551616) : Calls Try.prog 51 #[.int .u64 m, .int .i64 t] w (Ret (.bool (hasB m t)) w) := by
  by_cases h : 0 ≤ t ∧ t < 64
  · obtain ⟨T, rfl⟩ := Int.eq_ofNat_of_zero_le h.1
    have hT : T < 64 := by omega
    rw [hasB_nat hT]
    have e := shr_mod m T
    generalize m.testBit T = b at *
    clear h
    cases b
    all_goals
      simp only [Bool.toNat_true, Bool.toNat_false] at e
      go_enter Try.func51, Try.ntmps51
      go_wp2
      go_ret
      exact ⟨rfl, rfl⟩
  · rw [hasB_out h]
    by_cases h0 : t < 0
    · clear h
      go_enter Try.func51, Try.ntmps51
      go_wp2
      go_ret
      exact ⟨rfl, rfl⟩
    · have h1 : decide (63 < t) = true := decide_eq_true (by omega)
      have h1' : decide (t > 63) = true := decide_eq_true (by omega)
      have h2 : 63 < t := by omega
      clear h
      go_enter Try.func51, Try.ntmps51
      go_wp2
      go_ret
      exact ⟨rfl, rfl⟩

/-- What With answers. -/
def withI (m : Nat) (t : Int) : Nat := if 0 ≤ t ∧ t < 64 then withN m t.toNat else m
theorem withI_nat {m t : Nat} (h : t < 64) : withI m (t : Int) = withN m t := by
  unfold withI
  rw [if_pos ⟨by omega, by omega⟩, Int.toNat_natCast]
theorem withI_out {m : Nat} {t : Int} (h : ¬ (0 ≤ t ∧ t < 64)) : withI m t = m := by
  unfold withI
  rw [if_neg h]
theorem withI_lt {m : Nat} {t : Int} (hm : m < 18446744073709551616) : withI m t < 18446744073709551616 := by
  by_cases h : 0 ≤ t ∧ t < 64
  · obtain ⟨T, rfl⟩ := Int.eq_ofNat_of_zero_le h.1
    rw [withI_nat (by omega)]
    exact withN_lt hm (by omega)
  · rw [withI_out h]; exact hm

theorem add_word {m t : Nat} (hm : m < 18446744073709551616) (ht : t < 64) (h : m.testBit t = false) : IntKind.u64.wrap ((m : Int) + IntKind.u64.wrap (2 ^ t)) = (withN m t : Int) := by
  have e := add_pow h
  have h1 := withN_lt hm ht
  have h2 := pow_lt64 ht
  rw [← e] at h1 ⊢
  rw [pow_cast]
  generalize 2 ^ t = K at *
  rw [IntKind.wrap_u64, IntKind.wrap_u64]
  omega
theorem or_word {m t : Nat} (hm : m < 18446744073709551616) (ht : t < 64) : bits BinOp.or IntKind.u64 (m : Int) (IntKind.u64.wrap (2 ^ t)) = (withN m t : Int) := by
  have h2 := pow_lt64 ht
  rw [pow_cast]
  have e : IntKind.u64.wrap ((2 ^ t : Nat) : Int) = ((2 ^ t : Nat) : Int) := by
    generalize 2 ^ t = K at *
    rw [IntKind.wrap_u64]
    omega
  rw [e, bits_or_u64_nat _ _ hm h2]
  rfl

set_option maxHeartbeats 1000000 in
theorem with_any (m : Nat) (t : Int) (w : World) (hm : m < 18446744073709551616) : Calls Try.prog 72 #[.int .u64 m, .int .i64 t] w (Ret (.int .u64 (withI m t)) w) := by
  have HH := Lib.hid (refHas_any m t w hm)
  by_cases h : 0 ≤ t ∧ t < 64
  · obtain ⟨T, rfl⟩ := Int.eq_ofNat_of_zero_le h.1
    have hT : T < 64 := by omega
    rw [withI_nat hT]
    rw [hasB_nat hT] at HH
    cases hb : m.testBit T
    · rw [hb] at HH
      have e := add_word hm hT hb
      generalize withN m T = M at *
      have h1 : decide ((T : Int) < 0) = false := decide_eq_false (by omega)
      have h2 : decide ((63 : Int) < (T : Int)) = false := decide_eq_false (by omega)
      clear h hb
      go_enter Try.func72, Try.ntmps72
      go_wp2_with (go_at_call 51; refine HH.out.mono ?_; rintro e w' ⟨rfl, rfl⟩)
      go_ret
      exact ⟨rfl, rfl⟩
    · rw [hb] at HH
      rw [withN_of hb]
      clear h hb
      go_enter Try.func72, Try.ntmps72
      go_wp2_with (go_at_call 51; refine HH.out.mono ?_; rintro e w' ⟨rfl, rfl⟩)
      go_ret
      exact ⟨rfl, rfl⟩
  · rw [withI_out h]
    rw [hasB_out h] at HH
    by_cases h0 : t < 0
    · clear h
      go_enter Try.func72, Try.ntmps72
      go_wp2_with (go_at_call 51; refine HH.out.mono ?_; rintro e w' ⟨rfl, rfl⟩)
      go_ret
      exact ⟨rfl, rfl⟩
    · have h1 : decide (63 < t) = true := decide_eq_true (by omega)
      have h2 : 63 < t := by omega
      have h3 : decide (t < 0) = false := decide_eq_false h0
      clear h
      go_enter Try.func72, Try.ntmps72
      go_wp2_with (go_at_call 51; refine HH.out.mono ?_; rintro e w' ⟨rfl, rfl⟩)
      go_ret
      exact ⟨rfl, rfl⟩

/-- What a division by the frame, rounded down, leaves. -/
def modN (n : Int) (f : Nat) : Nat := (n % (f : Int)).toNat
theorem modN_cast {n : Int} {f : Nat} (h : 0 < f) : (modN n f : Int) = n % (f : Int) := by
  unfold modN
  exact Int.toNat_of_nonneg (Int.emod_nonneg _ (by omega))
theorem modN_lt {n : Int} {f : Nat} (h : 0 < f) : modN n f < f := by
  have h1 := modN_cast (n := n) h
  have := Int.emod_lt_of_pos n (show (0 : Int) < (f : Int) by omega)
  omega
theorem tmod_cases (n : Int) {f : Nat} (h : 0 < f) : (0 ≤ n.tmod f ∧ n.tmod f = modN n f) ∨ (n.tmod f < 0 ∧ n.tmod f + f = modN n f) := by
  rw [modN_cast h]
  rw [Int.tmod_eq_emod]
  by_cases h0 : 0 ≤ n ∨ (f : Int) ∣ n
  · rw [if_pos h0]
    left
    have := Int.emod_nonneg n (show (f : Int) ≠ 0 by omega)
    omega
  · rw [if_neg h0]
    right
    have := Int.emod_lt_of_pos n (show (0 : Int) < (f : Int) by omega)
    simp
    omega
theorem tmod_bound (n : Int) {f : Nat} (h : 0 < f) (hf : f ≤ 64) : -64 ≤ n.tmod f ∧ n.tmod f < 64 := by
  have := modN_lt (n := n) h
  rcases tmod_cases n h with h1 | h1 <;> omega

theorem wrap64_small4 {n : Int} (h : -4611686018427387904 ≤ n) (h1 : n ≤ 4611686018427387904) : wrap64 n = n := by
  unfold wrap64
  omega
theorem modulo_word (n : Int) (f : Nat) (h0 : 0 < f) (hf : f ≤ 64) : (wrap64 (n.tmod f + f)).tmod f = modN n f := by
  have hc := tmod_cases n h0
  have hb := tmod_bound n h0 hf
  have hl := modN_lt (n := n) h0
  generalize n.tmod f = r at *
  rw [wrap64_small4 (by omega) (by omega), Int.tmod_eq_emod_of_nonneg (by omega)]
  rcases hc with ⟨h1, h2⟩ | ⟨h1, h2⟩
  · rw [Int.add_emod_right, Int.emod_eq_of_lt (by omega) (by omega)]; omega
  · rw [Int.emod_eq_of_lt (by omega) (by omega)]; omega

/-- A tick, so much later, round. -/
def laterN (f l i : Nat) : Nat := (i + l) % f
theorem later_word (f i : Nat) (k : Int) (h0 : 0 < f) (hf : f ≤ 64) (hi : i ≤ 64) : ((i : Int) + modN k f) % f = (laterN f (modN k f) i : Int) := by
  have hl := modN_lt (n := k) h0
  generalize modN k f = l at *
  unfold laterN
  simp
end Go.Proofs.Ytpjmdnhoiobedaa
