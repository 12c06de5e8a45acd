/-
  The laws FixqTimes, FixqReduces, FixqDivides, FixqWhole, walked.
-/
import Derived.Test.YthpainpeieapfaaAwake
set_option linter.unusedVariables false
namespace Go.Proofs.Ythpainpeieapfaa
open Go.RowKit

set_option maxHeartbeats 1000000 in
theorem times_law (a b : Int) (a1 : -9223372036854775808 ≤ a) (a2 : a ≤ 9223372036854775807) (b1 : -9223372036854775808 ≤ b) (b2 : b ≤ 9223372036854775807) (w : World) :
    Calls Try.prog 4 #[.int .i64 a, .int .i64 b] w (Ans w) := by
  have HA : Hid (∃ x e ok, (∀ W, Calls Try.prog 15 #[.int .i64 a, .int .i64 b] W fun r w' => r = .returned (.tuple #[.int .i64 x, .int .i64 e]) ∧ W = w') ∧
      (∀ W, Calls Try.prog 16 #[.int .i64 a, .int .i64 b] W fun r w' => ∃ y : Int, r = .returned (.tuple #[.int .i64 y, .bool ok]) ∧ Below W.heap.size W w' ∧
        (∀ V, Calls Try.prog 13 #[.int .i64 x, .int .i64 e, .int .i64 y, .bool ok] V fun r w' => r = .returned (.bool true) ∧ V = w'))) := by
    have hs : (!(decide (a < 0) == decide (b < 0))) = true ∨ (!(decide (a < 0) == decide (b < 0))) = false := by cases (!(decide (a < 0) == decide (b < 0))) <;> simp
    by_cases hh : hiOf (szOf a * szOf b) = 0
    · have h1 : ((hiOf (szOf a * szOf b) : Int) != 0) = false := by simp [hh]
      have h2 : ((hiOf (szOf a * szOf b) : Int) == 0) = true := by simp [hh]
      rcases hs with hs | hs
      · by_cases hl : loOf (szOf a * szOf b) ≤ 9223372036854775808
        · exact ⟨_, 0, true, mul_neg a b a1 a2 b1 b2 h1 hs hl, fun W => (refMul_neg a b a1 a2 b1 b2 h2 hs hl W).mono fun r w' h => ⟨_, h.1, h.2, told_true _⟩⟩
        · exact ⟨0, 5, false, mul_negover a b a1 a2 b1 b2 h1 hs (by omega), fun W => (refMul_negover a b a1 a2 b1 b2 h2 hs (by omega) W).mono fun r w' ⟨m, h, hb⟩ => ⟨m, h, hb, told_false m⟩⟩
      · by_cases hl : loOf (szOf a * szOf b) < 9223372036854775808
        · exact ⟨_, 0, true, mul_pos a b a1 a2 b1 b2 h1 hs hl, fun W => (refMul_pos a b a1 a2 b1 b2 h2 hs hl W).mono fun r w' h => ⟨_, h.1, h.2, told_true _⟩⟩
        · exact ⟨0, 5, false, mul_posover a b a1 a2 b1 b2 h1 hs (by omega), fun W => (refMul_posover a b a1 a2 b1 b2 h2 hs (by omega) W).mono fun r w' ⟨m, h, hb⟩ => ⟨m, h, hb, told_false m⟩⟩
    · have h1 : ((hiOf (szOf a * szOf b) : Int) != 0) = true := by simp; omega
      have h2 : ((hiOf (szOf a * szOf b) : Int) == 0) = false := by simp; omega
      rcases hs with hs | hs
      · exact ⟨0, 5, false, mul_high a b a1 a2 b1 b2 h1, fun W => (refMul_hight a b a1 a2 b1 b2 h2 hs W).mono fun r w' ⟨m, h, hb⟩ => ⟨m, h, hb, told_false m⟩⟩
      · exact ⟨0, 5, false, mul_high a b a1 a2 b1 b2 h1, fun W => (refMul_highf a b a1 a2 b1 b2 h2 hs W).mono fun r w' ⟨m, h, hb⟩ => ⟨m, h, hb, told_false m⟩⟩
  obtain ⟨x, e, ok, A1, A2⟩ := HA.out
  have A1 := Lib.hid A1
  have A2 := Lib.hid A2
  go_enter Try.func4, Try.ntmps4
  go_wp2_with (first
    | (go_at_call 15; refine (A1.out _).mono ?_; rintro e w1 ⟨rfl, rfl⟩)
    | (go_at_call 16; refine (A2.out _).mono ?_; rintro e w1 ⟨y, rfl, hb1, ht⟩; have HB1 := Lib.hid hb1; have HT := Lib.hid ht; clear hb1 ht)
    | (go_at_call 13; refine (HT.out _).mono ?_; rintro e w2 ⟨rfl, rfl⟩)
    | (go_at_call 14; refine (awake_any _).mono ?_; rintro e w3 ⟨rfl, hb⟩))
  go_returns
  exact ⟨rfl, HB1.out.trans (hb.mono HB1.out.size)⟩

theorem quo_lt {a g : Nat} (b1 : a < 18446744073709551616) : quoN a g < 18446744073709551616 := Nat.lt_of_le_of_lt (Nat.div_le_self _ _) b1
theorem reduced {a b : Nat} (hb : (b == 0) = false) : gOf (quoN a (gOf a b)) (quoN b (gOf a b)) = 1 := Nat.coprime_div_gcd_div_gcd (Nat.gcd_pos_of_pos_right _ (by simp at hb; omega))

set_option maxHeartbeats 1000000 in
theorem reduces_zero (a : Nat) (b1 : a < 18446744073709551616) (w : World) :
    Calls Try.prog 8 #[.int .u64 a, .int .u64 0] w (Ans w) := by
  have h0 : (0 : Nat) < 18446744073709551616 := by decide
  have R1 := Lib.hid (fun W => refGcd_any (a + 0) a 0 W (Nat.le_refl _) b1 h0)
  have G1 := Lib.hid (fun W => gcd_any a 0 b1 h0 W)
  go_enter Try.func8, Try.ntmps8
  go_wp2_with (first
    | (go_at_call 24; refine (R1.out _).mono ?_; rintro e w1 ⟨rfl, rfl⟩)
    | (go_at_call 25; refine (reduce_zero a _).mono ?_; rintro e w1 ⟨rfl, rfl⟩)
    | (go_at_call 26; refine (G1.out _).mono ?_; rintro e w1 ⟨rfl, hb1⟩; have HB1 := Lib.hid hb1; clear hb1)
    | (go_at_call 14; refine (awake_any _).mono ?_; rintro e w3 ⟨rfl, hb⟩))
  go_returns
  exact ⟨rfl, HB1.out.trans (hb.mono HB1.out.size)⟩

set_option maxHeartbeats 1000000 in
theorem reduces_some (a b : Nat) (b1 : a < 18446744073709551616) (b2 : b < 18446744073709551616) (hb : (b == 0) = false) (w : World) :
    Calls Try.prog 8 #[.int .u64 a, .int .u64 b] w (Ans w) := by
  have hb' : ((b : Int) == 0) = false := by simpa using hb
  have R1 := Lib.hid (fun W => refGcd_any (a + b) a b W (Nat.le_refl _) b1 b2)
  have G1 := Lib.hid (fun W => gcd_any a b b1 b2 W)
  have G2 : Hid (∀ W, Calls Try.prog 26 #[.int .u64 (quoN a (gOf a b)), .int .u64 (quoN b (gOf a b))] W fun e w' => e = .returned (.int .u64 1) ∧ Below W.heap.size W w') := by
    intro W
    have h := gcd_any _ _ (quo_lt (g := gOf a b) b1) (quo_lt (g := gOf a b) b2) W
    rw [reduced hb] at h
    exact h
  have q1 := div_wrap (u := a) (n := gOf a b) (q := quoN a (gOf a b)) rfl b1
  have q2 := div_wrap (u := b) (n := gOf a b) (q := quoN b (gOf a b)) rfl b2
  have hg : 0 < gOf a b := Nat.gcd_pos_of_pos_right _ (by simp at hb; omega)
  go_enter Try.func8, Try.ntmps8
  go_wp2_with (first
    | (go_at_call 24; refine (R1.out _).mono ?_; rintro e w1 ⟨rfl, rfl⟩)
    | (go_at_call 25; refine (reduce_ok a b b1 b2 hb _).mono ?_; rintro e w1 ⟨rfl, hb0⟩; have HB0 := Lib.hid hb0; clear hb0)
    | (go_at_call 26; have hx := HB1; clear hx; refine (G2.out _).mono ?_; rintro e w1 ⟨rfl, hb2⟩; have HB2 := Lib.hid (HB1.out.trans (hb2.mono HB1.out.size)); clear hb2)
    | (go_at_call 26; refine (G1.out _).mono ?_; rintro e w1 ⟨rfl, hb1⟩; have HB1 := Lib.hid (HB0.out.trans (hb1.mono HB0.out.size)); clear hb1)
    | (go_at_call 14; refine (awake_any _).mono ?_; rintro e w3 ⟨rfl, hb⟩))
  go_returns
  exact ⟨rfl, HB2.out.trans (hb.mono HB2.out.size)⟩

theorem reduces_any (a b : Nat) (b1 : a < 18446744073709551616) (b2 : b < 18446744073709551616) (w : World) :
    Calls Try.prog 8 #[.int .u64 a, .int .u64 b] w (Ans w) := by
  by_cases h : b = 0
  · subst h; exact reduces_zero a b1 w
  · exact reduces_some a b b1 b2 (by simpa using h) w

theorem refDiv_ok (n c : Nat) (b1 : n < 340282366920938463463374607431768211456) (b2 : c < 18446744073709551616) (ho : hiOf n < c) (w : World) :
    Calls Try.prog 19 #[.agg #[.int .u64 (hiOf n), .int .u64 (loOf n)], .int .u64 c] w fun e w' => e = .returned (.tuple #[.int .u64 (qOf n c), .int .u64 (rOf n c), .bool true]) ∧ Below w.heap.size w w' := by
  have h := div_any n c b1 b2 (by omega) w
  have hq := qOf_lt ho
  have e1 : loOf (n / c) = qOf n c := Nat.mod_eq_of_lt hq
  have e2 : (hiOf (n / c) == 0) = true := by
    have : hiOf (n / c) = 0 := Nat.div_eq_of_lt hq
    simp [this]
  rw [e1, e2] at h
  exact h

theorem refDiv_over (n c : Nat) (b1 : n < 340282366920938463463374607431768211456) (b2 : c < 18446744073709551616) (hc : (c == 0) = false) (ho : c ≤ hiOf n) (w : World) :
    Calls Try.prog 19 #[.agg #[.int .u64 (hiOf n), .int .u64 (loOf n)], .int .u64 c] w fun e w' => ∃ x y : Int, e = .returned (.tuple #[.int .u64 x, .int .u64 y, .bool false]) ∧ Below w.heap.size w w' := by
  have hc0 : 0 < c := by simp at hc; omega
  have e2 : (hiOf (n / c) == 0) = false := by
    have h1 : 18446744073709551616 ≤ n / c := by
      rw [Nat.le_div_iff_mul_le hc0]
      have : 18446744073709551616 * c ≤ 18446744073709551616 * hiOf n := Nat.mul_le_mul_left _ ho
      unfold hiOf at this
      omega
    have : hiOf (n / c) ≠ 0 := by unfold hiOf; omega
    simpa using this
  have h := div_any n c b1 b2 hc0 w
  rw [e2] at h
  exact h.mono fun e w' h => ⟨_, _, h.1, h.2⟩

set_option maxHeartbeats 1000000 in
theorem divides_zero (a b : Nat) (w : World) :
    Calls Try.prog 5 #[.int .u64 a, .int .u64 b, .int .u64 0] w (Ans w) := by
  go_enter Try.func5, Try.ntmps5
  go_wp2_with (first
    | (go_at_call 17; refine (muldiv_zero a b _).mono ?_; rintro e w1 ⟨rfl, hb1⟩; have HB1 := Lib.hid hb1; clear hb1)
    | (go_at_call 18; refine (ceil_zero a b _).mono ?_; rintro e w2 ⟨rfl, hb2⟩; have HB2 := Lib.hid (HB1.out.trans (hb2.mono HB1.out.size)); clear hb2)
    | (go_at_call 14; refine (awake_any _).mono ?_; rintro e w3 ⟨rfl, hb⟩))
  go_returns
  exact ⟨rfl, HB2.out.trans (hb.mono HB2.out.size)⟩

set_option maxHeartbeats 1000000 in
theorem divides_over (a b c : Nat) (b1 : a < 18446744073709551616) (b2 : b < 18446744073709551616) (b3 : c < 18446744073709551616) (hc : (c == 0) = false) (ho : c ≤ hiOf (a * b)) (w : World) :
    Calls Try.prog 5 #[.int .u64 a, .int .u64 b, .int .u64 c] w (Ans w) := by
  have hc' : ((c : Int) == 0) = false := by simpa using hc
  go_enter Try.func5, Try.ntmps5
  go_wp2_with (first
    | (go_at_call 17; refine (muldiv_over a b c b1 b2 hc ho _).mono ?_; rintro e w1 ⟨rfl, hb1⟩; have HB1 := Lib.hid hb1; clear hb1)
    | (go_at_call 18; refine (ceil_over a b c b1 b2 hc ho _).mono ?_; rintro e w2 ⟨rfl, hb2⟩; have HB2 := Lib.hid (HB1.out.trans (hb2.mono HB1.out.size)); clear hb2)
    | (go_at_call 20; refine (times_num a b b1 b2 _).mono ?_; rintro e w4 ⟨rfl, hb4⟩; have HB4 := Lib.hid (HB2.out.trans (hb4.mono HB2.out.size)); clear hb4)
    | (go_at_call 19; refine (refDiv_over (a * b) c (mul_lt128 b1 b2) b3 hc ho _).mono ?_; rintro e w5 ⟨x, y, rfl, hb5⟩; have HB5 := Lib.hid (HB4.out.trans (hb5.mono HB4.out.size)); clear hb5)
    | (go_at_call 14; refine (awake_any _).mono ?_; rintro e w3 ⟨rfl, hb⟩))
  go_returns
  exact ⟨rfl, HB5.out.trans (hb.mono HB5.out.size)⟩

set_option maxHeartbeats 1000000 in
theorem divides_whole (a b c : Nat) (b1 : a < 18446744073709551616) (b2 : b < 18446744073709551616) (b3 : c < 18446744073709551616) (hc : (c == 0) = false) (ho : hiOf (a * b) < c) (hr : ((rOf (a * b) c : Int) == 0) = true) (w : World) :
    Calls Try.prog 5 #[.int .u64 a, .int .u64 b, .int .u64 c] w (Ans w) := by
  have hc' : ((c : Int) == 0) = false := by simpa using hc
  have ht : decide ((0 : Int) < (rOf (a * b) c : Int)) = false := by simp at hr; simp; omega
  go_enter Try.func5, Try.ntmps5
  go_wp2_with (first
    | (go_at_call 17; refine (muldiv_ok a b c b1 b2 b3 hc ho _).mono ?_; rintro e w1 ⟨rfl, hb1⟩; have HB1 := Lib.hid hb1; clear hb1)
    | (go_at_call 18; refine (ceil_whole a b c b1 b2 b3 hc ho hr _).mono ?_; rintro e w2 ⟨rfl, hb2⟩; have HB2 := Lib.hid (HB1.out.trans (hb2.mono HB1.out.size)); clear hb2)
    | (go_at_call 20; refine (times_num a b b1 b2 _).mono ?_; rintro e w4 ⟨rfl, hb4⟩; have HB4 := Lib.hid (HB2.out.trans (hb4.mono HB2.out.size)); clear hb4)
    | (go_at_call 19; refine (refDiv_ok (a * b) c (mul_lt128 b1 b2) b3 ho _).mono ?_; rintro e w5 ⟨rfl, hb5⟩; have HB5 := Lib.hid (HB4.out.trans (hb5.mono HB4.out.size)); clear hb5)
    | (go_at_call 14; refine (awake_any _).mono ?_; rintro e w3 ⟨rfl, hb⟩))
  go_returns
  exact ⟨rfl, HB5.out.trans (hb.mono HB5.out.size)⟩

set_option maxHeartbeats 1000000 in
theorem divides_most (a b c : Nat) (b1 : a < 18446744073709551616) (b2 : b < 18446744073709551616) (b3 : c < 18446744073709551616) (hc : (c == 0) = false) (ho : hiOf (a * b) < c) (hr : ((rOf (a * b) c : Int) == 0) = false) (hq : ((qOf (a * b) c : Int) == 18446744073709551615) = true) (w : World) :
    Calls Try.prog 5 #[.int .u64 a, .int .u64 b, .int .u64 c] w (Ans w) := by
  have hc' : ((c : Int) == 0) = false := by simpa using hc
  have ht : 0 < rOf (a * b) c := by simp at hr; omega
  go_enter Try.func5, Try.ntmps5
  go_wp2_with (first
    | (go_at_call 17; refine (muldiv_ok a b c b1 b2 b3 hc ho _).mono ?_; rintro e w1 ⟨rfl, hb1⟩; have HB1 := Lib.hid hb1; clear hb1)
    | (go_at_call 18; refine (ceil_most a b c b1 b2 b3 hc ho hr hq _).mono ?_; rintro e w2 ⟨rfl, hb2⟩; have HB2 := Lib.hid (HB1.out.trans (hb2.mono HB1.out.size)); clear hb2)
    | (go_at_call 20; refine (times_num a b b1 b2 _).mono ?_; rintro e w4 ⟨rfl, hb4⟩; have HB4 := Lib.hid (HB2.out.trans (hb4.mono HB2.out.size)); clear hb4)
    | (go_at_call 19; refine (refDiv_ok (a * b) c (mul_lt128 b1 b2) b3 ho _).mono ?_; rintro e w5 ⟨rfl, hb5⟩; have HB5 := Lib.hid (HB4.out.trans (hb5.mono HB4.out.size)); clear hb5)
    | (go_at_call 14; refine (awake_any _).mono ?_; rintro e w3 ⟨rfl, hb⟩))
  go_returns
  exact ⟨rfl, HB5.out.trans (hb.mono HB5.out.size)⟩

set_option maxHeartbeats 1000000 in
theorem divides_up (a b c : Nat) (b1 : a < 18446744073709551616) (b2 : b < 18446744073709551616) (b3 : c < 18446744073709551616) (hc : (c == 0) = false) (ho : hiOf (a * b) < c) (hr : ((rOf (a * b) c : Int) == 0) = false) (hq : ((qOf (a * b) c : Int) == 18446744073709551615) = false) (hq2 : qOf (a * b) c < 18446744073709551615) (w : World) :
    Calls Try.prog 5 #[.int .u64 a, .int .u64 b, .int .u64 c] w (Ans w) := by
  have hc' : ((c : Int) == 0) = false := by simpa using hc
  have ht : 0 < rOf (a * b) c := by simp at hr; omega
  go_enter Try.func5, Try.ntmps5
  go_wp2_with (first
    | (go_at_call 17; refine (muldiv_ok a b c b1 b2 b3 hc ho _).mono ?_; rintro e w1 ⟨rfl, hb1⟩; have HB1 := Lib.hid hb1; clear hb1)
    | (go_at_call 18; refine (ceil_up a b c b1 b2 b3 hc ho hr hq hq2 _).mono ?_; rintro e w2 ⟨rfl, hb2⟩; have HB2 := Lib.hid (HB1.out.trans (hb2.mono HB1.out.size)); clear hb2)
    | (go_at_call 20; refine (times_num a b b1 b2 _).mono ?_; rintro e w4 ⟨rfl, hb4⟩; have HB4 := Lib.hid (HB2.out.trans (hb4.mono HB2.out.size)); clear hb4)
    | (go_at_call 19; refine (refDiv_ok (a * b) c (mul_lt128 b1 b2) b3 ho _).mono ?_; rintro e w5 ⟨rfl, hb5⟩; have HB5 := Lib.hid (HB4.out.trans (hb5.mono HB4.out.size)); clear hb5)
    | (go_at_call 14; refine (awake_any _).mono ?_; rintro e w3 ⟨rfl, hb⟩))
  go_returns
  exact ⟨rfl, HB5.out.trans (hb.mono HB5.out.size)⟩

theorem divides_any (a b c : Nat) (b1 : a < 18446744073709551616) (b2 : b < 18446744073709551616) (b3 : c < 18446744073709551616) (w : World) :
    Calls Try.prog 5 #[.int .u64 a, .int .u64 b, .int .u64 c] w (Ans w) := by
  by_cases h : c = 0
  · subst h; exact divides_zero a b w
  · have hc : (c == 0) = false := by simpa using h
    by_cases ho : c ≤ hiOf (a * b)
    · exact divides_over a b c b1 b2 b3 hc ho w
    · have ho : hiOf (a * b) < c := by omega
      by_cases hr : rOf (a * b) c = 0
      · exact divides_whole a b c b1 b2 b3 hc ho (by simp [hr]) w
      · have hr' : ((rOf (a * b) c : Int) == 0) = false := by simp; omega
        have := qOf_lt ho
        by_cases hq : qOf (a * b) c = 18446744073709551615
        · exact divides_most a b c b1 b2 b3 hc ho hr' (by rw [hq]; rfl) w
        · exact divides_up a b c b1 b2 b3 hc ho hr' (by simp; omega) (by omega) w
end Go.Proofs.Ythpainpeieapfaa
