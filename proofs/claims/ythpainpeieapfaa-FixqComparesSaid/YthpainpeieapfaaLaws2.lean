/-
  The laws FixqWhole and FixqCompares, walked.
-/
import Derived.Test.YthpainpeieapfaaLaws
set_option linter.unusedVariables false
namespace Go.Proofs.Ythpainpeieapfaa
open Go.RowKit

set_option maxHeartbeats 1000000 in
theorem whole_zero (a b  : Nat) (b1 : a < 18446744073709551616) (b2 : b < 18446744073709551616)  (w : World) :
    Calls Try.prog 6 #[.int .u64 a, .int .u64 b, .int .u64 0] w (Ans w) := by
  go_enter Try.func6, Try.ntmps6
  go_wp2_with (first
    | (go_at_call 17; refine (muldiv_zero a b _).mono ?_; rintro e w1 ⟨rfl, hb1⟩; have HB1 := Lib.hid hb1; clear hb1)
    | (go_at_call 14; refine (awake_any _).mono ?_; rintro e w3 ⟨rfl, hb⟩))
  go_returns
  exact ⟨rfl, HB1.out.trans (hb.mono HB1.out.size)⟩

set_option maxHeartbeats 1000000 in
theorem whole_over (a b c : Nat) (b1 : a < 18446744073709551616) (b2 : b < 18446744073709551616) (hc : (c == 0) = false) (ho : c ≤ hiOf (a * b)) (w : World) :
    Calls Try.prog 6 #[.int .u64 a, .int .u64 b, .int .u64 c] w (Ans w) := by
  go_enter Try.func6, Try.ntmps6
  go_wp2_with (first
    | (go_at_call 17; refine (muldiv_over a b c b1 b2 hc ho _).mono ?_; rintro e w1 ⟨rfl, hb1⟩; have HB1 := Lib.hid hb1; clear hb1)
    | (go_at_call 14; refine (awake_any _).mono ?_; rintro e w3 ⟨rfl, hb⟩))
  go_returns
  exact ⟨rfl, HB1.out.trans (hb.mono HB1.out.size)⟩

theorem sum_back (a b c : Nat) (b1 : a < 18446744073709551616) (b2 : b < 18446744073709551616) (b3 : c < 18446744073709551616) (ho : hiOf (a * b) < c) (w : World) :
    Calls Try.prog 21 #[.agg #[.int .u64 (hiOf (qOf (a * b) c * c)), .int .u64 (loOf (qOf (a * b) c * c))], .agg #[.int .u64 0, .int .u64 (rOf (a * b) c)]] w fun e w' => e = .returned (.agg #[.int .u64 (hiOf (a * b)), .int .u64 (loOf (a * b))]) ∧ Below w.heap.size w w' := by
  have hn := mul_lt128 b1 b2
  have h1 : qOf (a * b) c * c + rOf (a * b) c = a * b := Nat.div_add_mod' (a * b) c
  have hr := rOf_lt ho
  have h2 : qOf (a * b) c * c ≤ a * b := Nat.le_trans (Nat.le_add_right _ _) (Nat.le_of_eq h1)
  refine (sum_num _ _ 0 (rOf (a * b) c) (qOf (a * b) c * c) (rOf (a * b) c) (isWide_of (Nat.lt_of_le_of_lt h2 hn)) ⟨by decide, Nat.lt_trans hr b3, by rw [Nat.zero_mul, Nat.zero_add]⟩ w).mono fun e w' ⟨h, l, he, hw, hb⟩ => ?_
  rw [h1, Nat.mod_eq_of_lt hn] at hw
  rw [he, isWide_hi hw, isWide_lo hw]
  exact ⟨rfl, hb⟩

set_option maxHeartbeats 1000000 in
theorem whole_ok (a b c : Nat) (b1 : a < 18446744073709551616) (b2 : b < 18446744073709551616) (b3 : c < 18446744073709551616) (hc : (c == 0) = false) (ho : hiOf (a * b) < c) (w : World) :
    Calls Try.prog 6 #[.int .u64 a, .int .u64 b, .int .u64 c] w (Ans w) := by
  have ht := rOf_lt ho
  have hq := qOf_lt ho
  go_enter Try.func6, Try.ntmps6
  go_wp2_with (first
    | (go_at_call 17; refine (muldiv_ok a b c b1 b2 b3 hc ho _).mono ?_; rintro e w1 ⟨rfl, hb1⟩; have HB1 := Lib.hid hb1; clear hb1)
    | (go_at_call 14; refine (awake_any _).mono ?_; rintro e w3 ⟨rfl, hb⟩)
    | (go_at_call 20; have hx := HB4; clear hx; refine (times_num a b b1 b2 _).mono ?_; rintro e w5 ⟨rfl, hb5⟩; have HB5 := Lib.hid (HB6.out.trans (hb5.mono HB6.out.size)); clear hb5)
    | (go_at_call 20; refine (times_num (qOf (a * b) c) c hq b3 _).mono ?_; rintro e w4 ⟨rfl, hb4⟩; have HB4 := Lib.hid (HB1.out.trans (hb4.mono HB1.out.size)); clear hb4)
    | (go_at_call 21; refine (sum_back a b c b1 b2 b3 ho _).mono ?_; rintro e w6 ⟨rfl, hb6⟩; have HB6 := Lib.hid (HB4.out.trans (hb6.mono HB4.out.size)); clear hb6))
  go_returns
  exact ⟨rfl, HB5.out.trans (hb.mono HB5.out.size)⟩

theorem whole_any (a b c : Nat) (b1 : a < 18446744073709551616) (b2 : b < 18446744073709551616) (b3 : c < 18446744073709551616) (w : World) :
    Calls Try.prog 6 #[.int .u64 a, .int .u64 b, .int .u64 c] w (Ans w) := by
  by_cases h : c = 0
  · subst h; exact whole_zero a b b1 b2 w
  · have hc : (c == 0) = false := by simpa using h
    by_cases ho : c ≤ hiOf (a * b)
    · exact whole_over a b c b1 b2 hc ho w
    · exact whole_ok a b c b1 b2 b3 hc (by omega) w

theorem cmp_le {x y : Nat} : cmpN x y ≤ 0 ↔ x ≤ y := by
  unfold cmpN
  by_cases h : x < y
  · rw [if_pos h]; omega
  · rw [if_neg h]
    by_cases h2 : x = y
    · rw [if_pos h2]; omega
    · rw [if_neg h2]; omega
theorem cmp_lt {x y : Nat} : cmpN x y < 0 ↔ x < y := by
  unfold cmpN
  by_cases h : x < y
  · rw [if_pos h]; omega
  · rw [if_neg h]
    by_cases h2 : x = y
    · rw [if_pos h2]; omega
    · rw [if_neg h2]; omega
theorem cmp_swap (x y : Nat) : cmpN y x = -cmpN x y := by
  unfold cmpN
  by_cases h : x < y
  · rw [if_pos h, if_neg (by omega), if_neg (by omega)]; rfl
  · rw [if_neg h]
    by_cases h2 : x = y
    · rw [if_pos h2, if_neg (by omega), if_pos h2.symm]; rfl
    · rw [if_neg h2, if_pos (by omega)]
theorem cmp_range (x y : Nat) : -1 ≤ cmpN x y ∧ cmpN x y ≤ 1 := by
  unfold cmpN
  by_cases h : x < y
  · rw [if_pos h]; omega
  · rw [if_neg h]
    by_cases h2 : x = y
    · rw [if_pos h2]; omega
    · rw [if_neg h2]; omega

theorem frac_le {a b c d x y : Nat} (hd : 0 < d) (h1 : a * d ≤ c * b) (h2 : c * y ≤ x * d) : a * y ≤ x * b := by
  have e1 : a * d * y ≤ c * b * y := Nat.mul_le_mul_right _ h1
  have e2 : c * y * b ≤ x * d * b := Nat.mul_le_mul_right _ h2
  have e3 : a * y * d ≤ x * b * d := by
    rw [Nat.mul_right_comm a y d, Nat.mul_right_comm x b d]
    rw [Nat.mul_right_comm c b y] at e1
    exact Nat.le_trans e1 e2
  exact Nat.le_of_mul_le_mul_right e3 hd
theorem frac_lt {a b c d x y : Nat} (hd : 0 < d) (hy : 0 < y) (h1 : a * d < c * b) (h2 : c * y ≤ x * d) : a * y < x * b := by
  have e1 : a * d * y < c * b * y := Nat.mul_lt_mul_of_pos_right h1 hy
  have e2 : c * y * b ≤ x * d * b := Nat.mul_le_mul_right _ h2
  have e3 : a * y * d < x * b * d := by
    rw [Nat.mul_right_comm a y d, Nat.mul_right_comm x b d]
    rw [Nat.mul_right_comm c b y] at e1
    exact Nat.lt_of_lt_of_le e1 e2
  exact Nat.lt_of_mul_lt_mul_right e3

/-- A call of Compare comes to k. -/
def Cmp (a b c d : Nat) (k : Int) : Prop := ∀ W, Calls Try.prog 22 #[.int .u64 a, .int .u64 b, .int .u64 c, .int .u64 d] W fun e w' => e = .returned (.tuple #[.int .i64 k, .int .i64 0]) ∧ W = w'

set_option maxHeartbeats 1000000 in
theorem compares_arg (a b c d x y : Nat) (h : b = 0 ∨ ((b == 0) = false ∧ d = 0)) (w : World) :
    Calls Try.prog 7 #[.int .u64 a, .int .u64 b, .int .u64 c, .int .u64 d, .int .u64 x, .int .u64 y] w (Ans w) := by
  have C1 := Lib.hid (fun W => compare_arg a b c d h W)
  rcases h with rfl | ⟨hb, rfl⟩
  · go_enter Try.func7, Try.ntmps7
    go_wp2_with (first
      | (go_at_call 22; refine (C1.out _).mono ?_; rintro e w1 ⟨rfl, rfl⟩)
      | (go_at_call 14; refine (awake_any _).mono ?_; rintro e w3 ⟨rfl, hb⟩))
    go_returns
    exact ⟨rfl, hb⟩
  · have hb' : ((b : Int) == 0) = false := by simpa using hb
    go_enter Try.func7, Try.ntmps7
    go_wp2_with (first
      | (go_at_call 22; refine (C1.out _).mono ?_; rintro e w1 ⟨rfl, rfl⟩)
      | (go_at_call 14; refine (awake_any _).mono ?_; rintro e w3 ⟨rfl, hb⟩))
    go_returns
    exact ⟨rfl, hb⟩

set_option maxHeartbeats 1000000 in
theorem compares_y (a b c d x y : Nat) (k : Int) (hb : ((b : Int) == 0) = false) (hd : ((d : Int) == 0) = false) (k1 : -1 ≤ k) (k2 : k ≤ 1) (C1 : Hid (Cmp a b c d k)) (C2 : Hid (Cmp c d a b (-k)))
    (HR : Hid (∀ W, Calls Try.prog 23 #[.int .u64 a, .int .u64 b, .int .u64 c, .int .u64 d] W fun e w' => e = .returned (.int .i64 k) ∧ Below W.heap.size W w')) (hy : ((y : Int) == 0) = true)  (w : World) :
    Calls Try.prog 7 #[.int .u64 a, .int .u64 b, .int .u64 c, .int .u64 d, .int .u64 x, .int .u64 y] w (Ans w) := by
  go_enter Try.func7, Try.ntmps7
  go_wp2_with (first
    | (go_at_call 22; have hx := H3; clear hx; refine (C4.out _).mono ?_; rintro e w1 ⟨rfl, rfl⟩)
    | (go_at_call 22; have hx := H2; clear hx; refine (C3.out _).mono ?_; rintro e w1 ⟨rfl, rfl⟩; have H3 := Lib.hid hb)
    | (go_at_call 22; have hx := H1; clear hx; refine (C2.out _).mono ?_; rintro e w1 ⟨rfl, rfl⟩; have H2 := Lib.hid hb)
    | (go_at_call 22; refine (C1.out _).mono ?_; rintro e w1 ⟨rfl, rfl⟩; have H1 := Lib.hid hb)
    | (go_at_call 23; refine (HR.out _).mono ?_; rintro e w2 ⟨rfl, hb2⟩; have HB2 := Lib.hid hb2; clear hb2)
    | (go_at_call 14; refine (awake_any _).mono ?_; rintro e w3 ⟨rfl, hb3⟩))
  go_returns
  exact ⟨rfl, HB2.out.trans (hb3.mono HB2.out.size)⟩

set_option maxHeartbeats 1000000 in
theorem compares_A (a b c d x y : Nat) (k : Int) (hb : ((b : Int) == 0) = false) (hd : ((d : Int) == 0) = false) (k1 : -1 ≤ k) (k2 : k ≤ 1) (C1 : Hid (Cmp a b c d k)) (C2 : Hid (Cmp c d a b (-k)))
    (HR : Hid (∀ W, Calls Try.prog 23 #[.int .u64 a, .int .u64 b, .int .u64 c, .int .u64 d] W fun e w' => e = .returned (.int .i64 k) ∧ Below W.heap.size W w')) (m n : Int) (C3 : Hid (Cmp c d x y m)) (C4 : Hid (Cmp a b x y n)) (hy : ((y : Int) == 0) = false) (t1 : decide (k ≤ 0) = false) (t2 : decide (k < 0) = false) (w : World) :
    Calls Try.prog 7 #[.int .u64 a, .int .u64 b, .int .u64 c, .int .u64 d, .int .u64 x, .int .u64 y] w (Ans w) := by
  go_enter Try.func7, Try.ntmps7
  go_wp2_with (first
    | (go_at_call 22; have hx := H3; clear hx; refine (C4.out _).mono ?_; rintro e w1 ⟨rfl, rfl⟩)
    | (go_at_call 22; have hx := H2; clear hx; refine (C3.out _).mono ?_; rintro e w1 ⟨rfl, rfl⟩; have H3 := Lib.hid hb)
    | (go_at_call 22; have hx := H1; clear hx; refine (C2.out _).mono ?_; rintro e w1 ⟨rfl, rfl⟩; have H2 := Lib.hid hb)
    | (go_at_call 22; refine (C1.out _).mono ?_; rintro e w1 ⟨rfl, rfl⟩; have H1 := Lib.hid hb)
    | (go_at_call 23; refine (HR.out _).mono ?_; rintro e w2 ⟨rfl, hb2⟩; have HB2 := Lib.hid hb2; clear hb2)
    | (go_at_call 14; refine (awake_any _).mono ?_; rintro e w3 ⟨rfl, hb3⟩))
  go_returns
  exact ⟨rfl, HB2.out.trans (hb3.mono HB2.out.size)⟩

set_option maxHeartbeats 1000000 in
theorem compares_B (a b c d x y : Nat) (k : Int) (hb : ((b : Int) == 0) = false) (hd : ((d : Int) == 0) = false) (k1 : -1 ≤ k) (k2 : k ≤ 1) (C1 : Hid (Cmp a b c d k)) (C2 : Hid (Cmp c d a b (-k)))
    (HR : Hid (∀ W, Calls Try.prog 23 #[.int .u64 a, .int .u64 b, .int .u64 c, .int .u64 d] W fun e w' => e = .returned (.int .i64 k) ∧ Below W.heap.size W w')) (m n : Int) (C3 : Hid (Cmp c d x y m)) (C4 : Hid (Cmp a b x y n)) (hy : ((y : Int) == 0) = false) (t1 : decide (k ≤ 0) = true) (t2 : decide (k < 0) = false) (t3 : decide (m ≤ 0) = false) (w : World) :
    Calls Try.prog 7 #[.int .u64 a, .int .u64 b, .int .u64 c, .int .u64 d, .int .u64 x, .int .u64 y] w (Ans w) := by
  go_enter Try.func7, Try.ntmps7
  go_wp2_with (first
    | (go_at_call 22; have hx := H3; clear hx; refine (C4.out _).mono ?_; rintro e w1 ⟨rfl, rfl⟩)
    | (go_at_call 22; have hx := H2; clear hx; refine (C3.out _).mono ?_; rintro e w1 ⟨rfl, rfl⟩; have H3 := Lib.hid hb)
    | (go_at_call 22; have hx := H1; clear hx; refine (C2.out _).mono ?_; rintro e w1 ⟨rfl, rfl⟩; have H2 := Lib.hid hb)
    | (go_at_call 22; refine (C1.out _).mono ?_; rintro e w1 ⟨rfl, rfl⟩; have H1 := Lib.hid hb)
    | (go_at_call 23; refine (HR.out _).mono ?_; rintro e w2 ⟨rfl, hb2⟩; have HB2 := Lib.hid hb2; clear hb2)
    | (go_at_call 14; refine (awake_any _).mono ?_; rintro e w3 ⟨rfl, hb3⟩))
  go_returns
  exact ⟨rfl, HB2.out.trans (hb3.mono HB2.out.size)⟩

set_option maxHeartbeats 1000000 in
theorem compares_C (a b c d x y : Nat) (k : Int) (hb : ((b : Int) == 0) = false) (hd : ((d : Int) == 0) = false) (k1 : -1 ≤ k) (k2 : k ≤ 1) (C1 : Hid (Cmp a b c d k)) (C2 : Hid (Cmp c d a b (-k)))
    (HR : Hid (∀ W, Calls Try.prog 23 #[.int .u64 a, .int .u64 b, .int .u64 c, .int .u64 d] W fun e w' => e = .returned (.int .i64 k) ∧ Below W.heap.size W w')) (m n : Int) (C3 : Hid (Cmp c d x y m)) (C4 : Hid (Cmp a b x y n)) (hy : ((y : Int) == 0) = false) (t1 : decide (k ≤ 0) = true) (t2 : decide (k < 0) = false) (t3 : decide (m ≤ 0) = true) (t4 : decide (0 < n) = false) (w : World) :
    Calls Try.prog 7 #[.int .u64 a, .int .u64 b, .int .u64 c, .int .u64 d, .int .u64 x, .int .u64 y] w (Ans w) := by
  go_enter Try.func7, Try.ntmps7
  go_wp2_with (first
    | (go_at_call 22; have hx := H3; clear hx; refine (C4.out _).mono ?_; rintro e w1 ⟨rfl, rfl⟩)
    | (go_at_call 22; have hx := H2; clear hx; refine (C3.out _).mono ?_; rintro e w1 ⟨rfl, rfl⟩; have H3 := Lib.hid hb)
    | (go_at_call 22; have hx := H1; clear hx; refine (C2.out _).mono ?_; rintro e w1 ⟨rfl, rfl⟩; have H2 := Lib.hid hb)
    | (go_at_call 22; refine (C1.out _).mono ?_; rintro e w1 ⟨rfl, rfl⟩; have H1 := Lib.hid hb)
    | (go_at_call 23; refine (HR.out _).mono ?_; rintro e w2 ⟨rfl, hb2⟩; have HB2 := Lib.hid hb2; clear hb2)
    | (go_at_call 14; refine (awake_any _).mono ?_; rintro e w3 ⟨rfl, hb3⟩))
  go_returns
  exact ⟨rfl, HB2.out.trans (hb3.mono HB2.out.size)⟩

set_option maxHeartbeats 1000000 in
theorem compares_D (a b c d x y : Nat) (k : Int) (hb : ((b : Int) == 0) = false) (hd : ((d : Int) == 0) = false) (k1 : -1 ≤ k) (k2 : k ≤ 1) (C1 : Hid (Cmp a b c d k)) (C2 : Hid (Cmp c d a b (-k)))
    (HR : Hid (∀ W, Calls Try.prog 23 #[.int .u64 a, .int .u64 b, .int .u64 c, .int .u64 d] W fun e w' => e = .returned (.int .i64 k) ∧ Below W.heap.size W w')) (m n : Int) (C3 : Hid (Cmp c d x y m)) (C4 : Hid (Cmp a b x y n)) (hy : ((y : Int) == 0) = false) (t1 : decide (k ≤ 0) = true) (t2 : decide (k < 0) = true) (t3 : decide (m ≤ 0) = false) (w : World) :
    Calls Try.prog 7 #[.int .u64 a, .int .u64 b, .int .u64 c, .int .u64 d, .int .u64 x, .int .u64 y] w (Ans w) := by
  go_enter Try.func7, Try.ntmps7
  go_wp2_with (first
    | (go_at_call 22; have hx := H3; clear hx; refine (C4.out _).mono ?_; rintro e w1 ⟨rfl, rfl⟩)
    | (go_at_call 22; have hx := H2; clear hx; refine (C3.out _).mono ?_; rintro e w1 ⟨rfl, rfl⟩; have H3 := Lib.hid hb)
    | (go_at_call 22; have hx := H1; clear hx; refine (C2.out _).mono ?_; rintro e w1 ⟨rfl, rfl⟩; have H2 := Lib.hid hb)
    | (go_at_call 22; refine (C1.out _).mono ?_; rintro e w1 ⟨rfl, rfl⟩; have H1 := Lib.hid hb)
    | (go_at_call 23; refine (HR.out _).mono ?_; rintro e w2 ⟨rfl, hb2⟩; have HB2 := Lib.hid hb2; clear hb2)
    | (go_at_call 14; refine (awake_any _).mono ?_; rintro e w3 ⟨rfl, hb3⟩))
  go_returns
  exact ⟨rfl, HB2.out.trans (hb3.mono HB2.out.size)⟩

set_option maxHeartbeats 1000000 in
theorem compares_E (a b c d x y : Nat) (k : Int) (hb : ((b : Int) == 0) = false) (hd : ((d : Int) == 0) = false) (k1 : -1 ≤ k) (k2 : k ≤ 1) (C1 : Hid (Cmp a b c d k)) (C2 : Hid (Cmp c d a b (-k)))
    (HR : Hid (∀ W, Calls Try.prog 23 #[.int .u64 a, .int .u64 b, .int .u64 c, .int .u64 d] W fun e w' => e = .returned (.int .i64 k) ∧ Below W.heap.size W w')) (m n : Int) (C3 : Hid (Cmp c d x y m)) (C4 : Hid (Cmp a b x y n)) (hy : ((y : Int) == 0) = false) (t1 : decide (k ≤ 0) = true) (t2 : decide (k < 0) = true) (t3 : decide (m ≤ 0) = true) (t4 : decide (0 < n) = false) (t5 : decide (0 ≤ n) = false) (w : World) :
    Calls Try.prog 7 #[.int .u64 a, .int .u64 b, .int .u64 c, .int .u64 d, .int .u64 x, .int .u64 y] w (Ans w) := by
  go_enter Try.func7, Try.ntmps7
  go_wp2_with (first
    | (go_at_call 22; have hx := H3; clear hx; refine (C4.out _).mono ?_; rintro e w1 ⟨rfl, rfl⟩)
    | (go_at_call 22; have hx := H2; clear hx; refine (C3.out _).mono ?_; rintro e w1 ⟨rfl, rfl⟩; have H3 := Lib.hid hb)
    | (go_at_call 22; have hx := H1; clear hx; refine (C2.out _).mono ?_; rintro e w1 ⟨rfl, rfl⟩; have H2 := Lib.hid hb)
    | (go_at_call 22; refine (C1.out _).mono ?_; rintro e w1 ⟨rfl, rfl⟩; have H1 := Lib.hid hb)
    | (go_at_call 23; refine (HR.out _).mono ?_; rintro e w2 ⟨rfl, hb2⟩; have HB2 := Lib.hid hb2; clear hb2)
    | (go_at_call 14; refine (awake_any _).mono ?_; rintro e w3 ⟨rfl, hb3⟩))
  go_returns
  exact ⟨rfl, HB2.out.trans (hb3.mono HB2.out.size)⟩

theorem compares_any (a b c d x y : Nat) (b1 : a < 18446744073709551616) (b2 : b < 18446744073709551616) (b3 : c < 18446744073709551616) (b4 : d < 18446744073709551616) (b5 : x < 18446744073709551616) (b6 : y < 18446744073709551616) (w : World) :
    Calls Try.prog 7 #[.int .u64 a, .int .u64 b, .int .u64 c, .int .u64 d, .int .u64 x, .int .u64 y] w (Ans w) := by
  by_cases hb : b = 0
  · exact compares_arg a b c d x y (.inl hb) w
  · have hb1 : (b == 0) = false := by simpa using hb
    have hb2 : ((b : Int) == 0) = false := by simpa using hb
    by_cases hd : d = 0
    · exact compares_arg a b c d x y (.inr ⟨hb1, hd⟩) w
    · have hd1 : (d == 0) = false := by simpa using hd
      have hd2 : ((d : Int) == 0) = false := by simpa using hd
      have C1 : Cmp a b c d (cmpN (a * d) (c * b)) := fun W => compare_ok a b c d b1 b2 b3 b4 hb1 hd1 W
      have C2 : Cmp c d a b (-(cmpN (a * d) (c * b))) := fun W => by rw [← cmp_swap]; exact compare_ok c d a b b3 b4 b1 b2 hd1 hb1 W
      have HR := fun W => refCompare_any a b c d b1 b2 b3 b4 W
      have kr := cmp_range (a * d) (c * b)
      by_cases hy : y = 0
      · exact compares_y a b c d x y _ hb2 hd2 kr.1 kr.2 C1 C2 HR (by simp [hy]) w
      · have hy1 : (y == 0) = false := by simpa using hy
        have hy2 : ((y : Int) == 0) = false := by simpa using hy
        have C3 : Cmp c d x y (cmpN (c * y) (x * d)) := fun W => compare_ok c d x y b3 b4 b5 b6 hd1 hy1 W
        have C4 : Cmp a b x y (cmpN (a * y) (x * b)) := fun W => compare_ok a b x y b1 b2 b5 b6 hb1 hy1 W
        by_cases t1 : cmpN (a * d) (c * b) ≤ 0
        · by_cases t2 : cmpN (a * d) (c * b) < 0
          · by_cases t3 : cmpN (c * y) (x * d) ≤ 0
            · have t4 : cmpN (a * y) (x * b) < 0 := cmp_lt.2 (frac_lt (by omega) (by omega) (cmp_lt.1 t2) (cmp_le.1 t3))
              exact compares_E a b c d x y _ hb2 hd2 kr.1 kr.2 C1 C2 HR _ _ C3 C4 hy2 (decide_eq_true t1) (decide_eq_true t2) (decide_eq_true t3) (decide_eq_false (by omega)) (decide_eq_false (by omega)) w
            · exact compares_D a b c d x y _ hb2 hd2 kr.1 kr.2 C1 C2 HR _ _ C3 C4 hy2 (decide_eq_true t1) (decide_eq_true t2) (decide_eq_false t3) w
          · by_cases t3 : cmpN (c * y) (x * d) ≤ 0
            · have t4 : cmpN (a * y) (x * b) ≤ 0 := cmp_le.2 (frac_le (by omega) (cmp_le.1 t1) (cmp_le.1 t3))
              exact compares_C a b c d x y _ hb2 hd2 kr.1 kr.2 C1 C2 HR _ _ C3 C4 hy2 (decide_eq_true t1) (decide_eq_false t2) (decide_eq_true t3) (decide_eq_false (by omega)) w
            · exact compares_B a b c d x y _ hb2 hd2 kr.1 kr.2 C1 C2 HR _ _ C3 C4 hy2 (decide_eq_true t1) (decide_eq_false t2) (decide_eq_false t3) w
        · exact compares_A a b c d x y _ hb2 hd2 kr.1 kr.2 C1 C2 HR _ _ C3 C4 hy2 (decide_eq_false t1) (decide_eq_false (by omega)) w
end Go.Proofs.Ythpainpeieapfaa
