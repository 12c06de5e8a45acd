/-
  Both Gcds are the greatest common divisor; Reduce.
  Conditions: each number is a word.
-/
import Derived.Test.YtanchjcifhbllaaCompare
set_option linter.unusedVariables false
namespace Go.Proofs.Ytanchjcifhbllaa
open Go.RowKit

def gOf (a b : Nat) : Nat := Nat.gcd a b

theorem gOf_lt {a b : Nat} (b1 : a < 18446744073709551616) (b2 : b < 18446744073709551616) : gOf a b < 18446744073709551616 := by
  unfold gOf
  rcases Nat.eq_zero_or_pos a with h | h
  · rw [h, Nat.gcd_zero_left]; exact b2
  · exact Nat.lt_of_le_of_lt (Nat.gcd_le_left _ h) b1

theorem two_coprime {b : Nat} (h : b % 2 = 1) : Nat.Coprime 2 b := by
  show Nat.gcd 2 b = 1
  rw [Nat.gcd_rec, h, Nat.gcd_one_left]

theorem gOf_zero_left (b : Nat) : gOf 0 b = b := Nat.gcd_zero_left b
theorem gOf_zero_right (a : Nat) : gOf a 0 = a := Nat.gcd_zero_right a
theorem gOf_both {a b : Nat} (ha : a % 2 = 0) (hb : b % 2 = 0) : 2 * gOf (a / 2) (b / 2) = gOf a b := by
  unfold gOf
  rw [← Nat.gcd_mul_left]
  congr 1 <;> omega
theorem gOf_left {a b : Nat} (ha : a % 2 = 0) (hb : b % 2 = 1) : gOf (a / 2) b = gOf a b := by
  unfold gOf
  have e : a = 2 * (a / 2) := by omega
  conv => rhs; rw [e]
  rw [(two_coprime hb).gcd_mul_left_cancel]
theorem gOf_right {a b : Nat} (ha : a % 2 = 1) (hb : b % 2 = 0) : gOf a (b / 2) = gOf a b := by
  have := gOf_left hb ha
  unfold gOf at *
  rw [Nat.gcd_comm, this, Nat.gcd_comm]
theorem gOf_less {a b : Nat} (ha : a % 2 = 1) (hb : b % 2 = 1) (h : a < b) : gOf a ((b - a) / 2) = gOf a b := by
  rw [gOf_right ha (by omega)]
  exact Nat.gcd_sub_self_right (Nat.le_of_lt h)
theorem gOf_more {a b : Nat} (ha : a % 2 = 1) (hb : b % 2 = 1) (h : b ≤ a) : gOf b ((a - b) / 2) = gOf a b := by
  rw [gOf_right hb (by omega)]
  unfold gOf
  rw [Nat.gcd_sub_self_right h, Nat.gcd_comm]

def GcdRel (a b : Nat) (w : World) (g : Nat) (x y : Value) (wr : World) : Prop :=
  ∃ p q : Nat, x = .int .u64 p ∧ y = .int .u64 q ∧ p < 18446744073709551616 ∧ q < 18446744073709551616 ∧ gOf p q = gOf a b ∧ g = q ∧ Below w.heap.size w wr

set_option maxRecDepth 100000 in
set_option maxHeartbeats 1000000 in
theorem gcd_any (a b : Nat) (b1 : a < 18446744073709551616) (b2 : b < 18446744073709551616) (w : World) :
    Calls Try.prog 54 #[.int .u64 a, .int .u64 b] w fun e w' => e = .returned (.int .u64 (gOf a b)) ∧ Below w.heap.size w w' := by
  go_enter Try.func54, Try.ntmps54
  go_wp2_with fail
  go_loopg [0, 1] b (fun g x y wr => GcdRel a b w g x y wr)
  case atStart => exact ⟨a, b, rfl, rfl, b1, b2, rfl, rfl, Below.refl _ _⟩
  case round =>
    obtain ⟨p, q, rfl, rfl, h1, h2, hg, hgk, hb⟩ := hrel
    have HG := Lib.hid hg
    have HK := Lib.hid hgk
    have HB := Lib.hid hb
    clear hg hgk hb
    by_cases hq : q = 0
    · subst hq
      go_wp2_with fail
      go_returns
      have e := HG.out
      rw [gOf_zero_right] at e
      rw [← e]
      exact ⟨rfl, HB.out⟩
    · have hq' : ((q : Int) != 0) = true := by simpa using hq
      go_wp2_with fail
      go_quiet (fail)
      go_wp2_with fail
      go_roundg (p % q)
      case measure => have := HK.out; have := Nat.mod_lt p (Nat.pos_of_ne_zero hq); omega
      case rel =>
        refine ⟨q, p % q, rfl, by simp, h2, Nat.lt_of_le_of_lt (Nat.mod_le _ _) h1, ?_, rfl, below_drewN HB.out _⟩
        rw [← HG.out]
        unfold gOf
        rw [Nat.gcd_comm p q, Nat.gcd_rec q p, Nat.gcd_comm]

set_option maxRecDepth 100000 in
set_option maxHeartbeats 1000000 in
theorem refGcd_any (n : Nat) : ∀ (a b : Nat) (w : World), a + b ≤ n → a < 18446744073709551616 → b < 18446744073709551616 →
    Calls Try.prog 52 #[.int .u64 a, .int .u64 b] w fun e w' => e = .returned (.int .u64 (gOf a b)) ∧ w = w' := by
  induction n with
  | zero =>
    intro a b w hn b1 b2
    obtain rfl : a = 0 := by omega
    obtain rfl : b = 0 := by omega
    go_enter Try.func52, Try.ntmps52
    go_wp2_with fail
    go_returns
    rw [gOf_zero_left]
    exact ⟨rfl, rfl⟩
  | succ n ih =>
    intro a b w hn b1 b2
    by_cases ha : a = 0
    · subst ha
      go_enter Try.func52, Try.ntmps52
      go_wp2_with fail
      go_returns
      rw [gOf_zero_left]
      exact ⟨rfl, rfl⟩
    · have ha' : ((a : Int) == 0) = false := by simpa using ha
      by_cases hb : b = 0
      · subst hb
        go_enter Try.func52, Try.ntmps52
        go_wp2_with fail
        go_returns
        rw [gOf_zero_right]
        exact ⟨rfl, rfl⟩
      · have hb' : ((b : Int) == 0) = false := by simpa using hb
        rcases Nat.mod_two_eq_zero_or_one a with pa | pa <;> rcases Nat.mod_two_eq_zero_or_one b with pb | pb
        · have ta : ((a : Int) % 2 == 0) = true := by simp; omega
          have tb : ((b : Int) % 2 == 0) = true := by simp; omega
          have I1 : ∀ W, Calls Try.prog 52 #[.int .u64 ((a : Int) / 2), .int .u64 ((b : Int) / 2)] W fun e w' => e = .returned (.int .u64 (gOf (a / 2) (b / 2))) ∧ W = w' := fun W => by
            have h := ih (a / 2) (b / 2) W (by omega) (by omega) (by omega)
            have e1 : ((a / 2 : Nat) : Int) = (a : Int) / 2 := by omega
            have e2 : ((b / 2 : Nat) : Int) = (b : Int) / 2 := by omega
            rw [e1, e2] at h
            exact h
          have I2 := Lib.hid I1
          have EG := gOf_both pa pb
          have HG := Lib.hid EG
          have GL := gOf_lt b1 b2
          rw [← EG] at GL
          clear I1 ih EG pa pb
          go_enter Try.func52, Try.ntmps52
          go_wp2_with (go_at_call 52; refine (I2.out _).mono ?_; rintro e w1 ⟨rfl, rfl⟩)
          go_returns
          rw [← HG.out]
          exact ⟨by simp, rfl⟩
        · have ta : ((a : Int) % 2 == 0) = true := by simp; omega
          have tb : ((b : Int) % 2 == 0) = false := by simp; omega
          have I1 : ∀ W, Calls Try.prog 52 #[.int .u64 ((a : Int) / 2), .int .u64 ((b : Int))] W fun e w' => e = .returned (.int .u64 (gOf (a / 2) (b))) ∧ W = w' := fun W => by
            have h := ih (a / 2) (b) W (by omega) (by omega) (by omega)
            have e1 : ((a / 2 : Nat) : Int) = (a : Int) / 2 := by omega
            have e2 : ((b : Nat) : Int) = (b : Int) := by omega
            rw [e1, e2] at h
            exact h
          have I2 := Lib.hid I1
          have EG := gOf_left pa pb
          have HG := Lib.hid EG
          clear I1 ih EG pa pb
          go_enter Try.func52, Try.ntmps52
          go_wp2_with (go_at_call 52; refine (I2.out _).mono ?_; rintro e w1 ⟨rfl, rfl⟩)
          go_returns
          rw [← HG.out]
          exact ⟨by simp, rfl⟩
        · have ta : ((a : Int) % 2 == 0) = false := by simp; omega
          have tb : ((b : Int) % 2 == 0) = true := by simp; omega
          have I1 : ∀ W, Calls Try.prog 52 #[.int .u64 ((a : Int)), .int .u64 ((b : Int) / 2)] W fun e w' => e = .returned (.int .u64 (gOf (a) (b / 2))) ∧ W = w' := fun W => by
            have h := ih (a) (b / 2) W (by omega) (by omega) (by omega)
            have e1 : ((a : Nat) : Int) = (a : Int) := by omega
            have e2 : ((b / 2 : Nat) : Int) = (b : Int) / 2 := by omega
            rw [e1, e2] at h
            exact h
          have I2 := Lib.hid I1
          have EG := gOf_right pa pb
          have HG := Lib.hid EG
          clear I1 ih EG pa pb
          go_enter Try.func52, Try.ntmps52
          go_wp2_with (go_at_call 52; refine (I2.out _).mono ?_; rintro e w1 ⟨rfl, rfl⟩)
          go_returns
          rw [← HG.out]
          exact ⟨by simp, rfl⟩
        · have ta : ((a : Int) % 2 == 0) = false := by simp; omega
          have tb : ((b : Int) % 2 == 0) = false := by simp; omega
          by_cases hlt : a < b
          · have I1 : ∀ W, Calls Try.prog 52 #[.int .u64 ((a : Int)), .int .u64 (((b : Int) - (a : Int)) / 2)] W fun e w' => e = .returned (.int .u64 (gOf (a) ((b - a) / 2))) ∧ W = w' := fun W => by
              have h := ih (a) ((b - a) / 2) W (by omega) (by omega) (by omega)
              have e1 : ((a : Nat) : Int) = (a : Int) := by omega
              have e2 : (((b - a) / 2 : Nat) : Int) = ((b : Int) - (a : Int)) / 2 := by omega
              rw [e1, e2] at h
              exact h
            have I2 := Lib.hid I1
            have EG := gOf_less pa pb hlt
            have HG := Lib.hid EG
            clear I1 ih EG pa pb
            go_enter Try.func52, Try.ntmps52
            go_wp2_with (go_at_call 52; refine (I2.out _).mono ?_; rintro e w1 ⟨rfl, rfl⟩)
            go_returns
            rw [← HG.out]
            exact ⟨by simp, rfl⟩
          · have I1 : ∀ W, Calls Try.prog 52 #[.int .u64 ((b : Int)), .int .u64 (((a : Int) - (b : Int)) / 2)] W fun e w' => e = .returned (.int .u64 (gOf (b) ((a - b) / 2))) ∧ W = w' := fun W => by
              have h := ih (b) ((a - b) / 2) W (by omega) (by omega) (by omega)
              have e1 : ((b : Nat) : Int) = (b : Int) := by omega
              have e2 : (((a - b) / 2 : Nat) : Int) = ((a : Int) - (b : Int)) / 2 := by omega
              rw [e1, e2] at h
              exact h
            have I2 := Lib.hid I1
            have EG := gOf_more pa pb (Nat.le_of_not_lt hlt)
            have HG := Lib.hid EG
            clear I1 ih EG pa pb
            go_enter Try.func52, Try.ntmps52
            go_wp2_with (go_at_call 52; refine (I2.out _).mono ?_; rintro e w1 ⟨rfl, rfl⟩)
            go_returns
            rw [← HG.out]
            exact ⟨by simp, rfl⟩

def quoN (a b : Nat) : Nat := a / b
theorem reduce_ok (a b : Nat) (b1 : a < 18446744073709551616) (b2 : b < 18446744073709551616) (hb : (b == 0) = false) (w : World) :
    Calls Try.prog 35 #[.int .u64 a, .int .u64 b] w fun e w' => e = .returned (.tuple #[.int .u64 (quoN a (gOf a b)), .int .u64 (quoN b (gOf a b)), .int .i64 0]) ∧ Below w.heap.size w w' := by
  have hb' : ((b : Int) == 0) = false := by simpa using hb
  have hg : 0 < gOf a b := Nat.gcd_pos_of_pos_right _ (by simp at hb; omega)
  have q1 := div_wrap (u := a) (n := gOf a b) (q := quoN a (gOf a b)) rfl b1
  have q2 := div_wrap (u := b) (n := gOf a b) (q := quoN b (gOf a b)) rfl b2
  go_enter Try.func35, Try.ntmps35
  go_wp2_with (go_at_call 54; refine (gcd_any a b b1 b2 _).mono ?_; rintro e w1 ⟨rfl, hbe⟩)
  go_quiet (fail)
  go_wp2_with fail
  go_returns
  refine ⟨?_, below_drewN hbe nq⟩
  rw [← q1, ← q2]
  rfl

theorem reduce_zero (a : Nat) (w : World) :
    Calls Try.prog 35 #[.int .u64 a, .int .u64 0] w fun e w' => e = .returned (.tuple #[.int .u64 0, .int .u64 0, .int .i64 1]) ∧ w = w' := by
  go_enter Try.func35, Try.ntmps35
  go_wp2_with fail
  go_returns
  exact ⟨rfl, rfl⟩
end Go.Proofs.Ytanchjcifhbllaa
