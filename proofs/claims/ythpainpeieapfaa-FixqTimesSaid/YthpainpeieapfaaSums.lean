/-
  Add, Sub and Mul, the program's and the reference's.
  Conditions: each number is an int.
-/
import Derived.Test.YthpainpeieapfaaGcd
set_option linter.unusedVariables false
namespace Go.Proofs.Ythpainpeieapfaa
open Go.RowKit

def szOf (a : Int) : Nat := a.natAbs
theorem szOf_lt {a : Int} (h1 : -9223372036854775808 ≤ a) (h2 : a ≤ 9223372036854775807) : szOf a < 18446744073709551616 := by unfold szOf; omega

theorem size_num (a : Int) (h1 : -9223372036854775808 ≤ a) (h2 : a ≤ 9223372036854775807) (w : World) :
    Calls Try.prog 28 #[.int .i64 a] w fun e w' => e = .returned (.int .u64 (szOf a)) ∧ w = w' := by
  by_cases h : a < 0
  · have e : IntKind.u64.wrap (-IntKind.u64.wrap a) = (szOf a : Int) := by simp only [IntKind.wrap_u64]; unfold szOf; omega
    rw [← e]
    clear e
    go_enter Try.func28, Try.ntmps28
    go_wp2
    go_returns
    exact ⟨rfl, rfl⟩
  · have e : a = (szOf a : Int) := by unfold szOf; omega
    rw [← e]
    clear e
    go_enter Try.func28, Try.ntmps28
    go_wp2
    go_returns
    exact ⟨rfl, rfl⟩

theorem refSize_num (a : Int) (h1 : -9223372036854775808 ≤ a) (h2 : a ≤ 9223372036854775807) (w : World) :
    Calls Try.prog 30 #[.int .i64 a] w fun e w' => e = .returned (.int .u64 (szOf a)) ∧ w = w' := by
  by_cases h : a < 0
  · have e : IntKind.u64.wrap (-IntKind.u64.wrap a) = (szOf a : Int) := by simp only [IntKind.wrap_u64]; unfold szOf; omega
    rw [← e]
    clear e
    go_enter Try.func30, Try.ntmps30
    go_wp2
    go_returns
    exact ⟨rfl, rfl⟩
  · have e : a = (szOf a : Int) := by unfold szOf; omega
    rw [← e]
    clear e
    go_enter Try.func30, Try.ntmps30
    go_wp2
    go_returns
    exact ⟨rfl, rfl⟩

theorem wrap64_eq (n : Int) : wrap64 n = (n + 9223372036854775808) % 18446744073709551616 - 9223372036854775808 := by unfold wrap64; rfl

theorem add_fits (a b : Int) (a1 : -9223372036854775808 ≤ a) (a2 : a ≤ 9223372036854775807) (b1 : -9223372036854775808 ≤ b) (b2 : b ≤ 9223372036854775807) (h1 : -9223372036854775808 ≤ a + b) (h2 : a + b ≤ 9223372036854775807) (w : World) :
    Calls Try.prog 9 #[.int .i64 a, .int .i64 b] w fun e w' => e = .returned (.tuple #[.int .i64 (a + b), .int .i64 0]) ∧ w = w' := by
  have ht : (!(decide (a + b < a) == decide (b < 0))) = false := by
    by_cases hb : b < 0 <;> simp [hb] <;> omega
  go_enter Try.func9, Try.ntmps9
  go_wp2
  go_returns
  exact ⟨rfl, rfl⟩

theorem add_over (a b : Int) (a1 : -9223372036854775808 ≤ a) (a2 : a ≤ 9223372036854775807) (b1 : -9223372036854775808 ≤ b) (b2 : b ≤ 9223372036854775807) (h : 9223372036854775807 < a + b ∨ a + b < -9223372036854775808) (w : World) :
    Calls Try.prog 9 #[.int .i64 a, .int .i64 b] w fun e w' => e = .returned (.tuple #[.int .i64 0, .int .i64 5]) ∧ w = w' := by
  have ht : (!(decide (wrap64 (a + b) < a) == decide (b < 0))) = true := by
    rw [wrap64_eq]
    by_cases hb : b < 0 <;> simp [hb] <;> omega
  have H := Lib.hid h
  clear h
  go_enter Try.func9, Try.ntmps9
  go_wp2
  go_returns
  exact ⟨rfl, rfl⟩

theorem refAdd_fits (a b : Int) (a1 : -9223372036854775808 ≤ a) (a2 : a ≤ 9223372036854775807) (b1 : -9223372036854775808 ≤ b) (b2 : b ≤ 9223372036854775807) (h1 : -9223372036854775808 ≤ a + b) (h2 : a + b ≤ 9223372036854775807) (w : World) :
    Calls Try.prog 10 #[.int .i64 a, .int .i64 b] w fun e w' => e = .returned (.tuple #[.int .i64 (a + b), .bool true]) ∧ w = w' := by
  go_enter Try.func10, Try.ntmps10
  go_wp2
  all_goals go_returns
  all_goals exact ⟨rfl, rfl⟩

theorem refAdd_over (a b : Int) (a1 : -9223372036854775808 ≤ a) (a2 : a ≤ 9223372036854775807) (b1 : -9223372036854775808 ≤ b) (b2 : b ≤ 9223372036854775807) (h : 9223372036854775807 < a + b ∨ a + b < -9223372036854775808) (w : World) :
    Calls Try.prog 10 #[.int .i64 a, .int .i64 b] w fun e w' => e = .returned (.tuple #[.int .i64 0, .bool false]) ∧ w = w' := by
  rcases h with h | h
  · go_enter Try.func10, Try.ntmps10
    go_wp2
    all_goals go_returns
    all_goals exact ⟨rfl, rfl⟩
  · go_enter Try.func10, Try.ntmps10
    go_wp2
    all_goals go_returns
    all_goals exact ⟨rfl, rfl⟩

theorem sub_fits (a b : Int) (a1 : -9223372036854775808 ≤ a) (a2 : a ≤ 9223372036854775807) (b1 : -9223372036854775808 ≤ b) (b2 : b ≤ 9223372036854775807) (h1 : -9223372036854775808 ≤ a - b) (h2 : a - b ≤ 9223372036854775807) (w : World) :
    Calls Try.prog 11 #[.int .i64 a, .int .i64 b] w fun e w' => e = .returned (.tuple #[.int .i64 (a - b), .int .i64 0]) ∧ w = w' := by
  have ht : (!(decide (a < a - b) == decide (b < 0))) = false := by
    by_cases hb : b < 0 <;> simp [hb] <;> omega
  go_enter Try.func11, Try.ntmps11
  go_wp2
  go_returns
  exact ⟨rfl, rfl⟩

theorem sub_over (a b : Int) (a1 : -9223372036854775808 ≤ a) (a2 : a ≤ 9223372036854775807) (b1 : -9223372036854775808 ≤ b) (b2 : b ≤ 9223372036854775807) (h : 9223372036854775807 < a - b ∨ a - b < -9223372036854775808) (w : World) :
    Calls Try.prog 11 #[.int .i64 a, .int .i64 b] w fun e w' => e = .returned (.tuple #[.int .i64 0, .int .i64 5]) ∧ w = w' := by
  have ht : (!(decide (a < wrap64 (a - b)) == decide (b < 0))) = true := by
    rw [wrap64_eq]
    by_cases hb : b < 0 <;> simp [hb] <;> omega
  have H := Lib.hid h
  clear h
  go_enter Try.func11, Try.ntmps11
  go_wp2
  go_returns
  exact ⟨rfl, rfl⟩

theorem refSub_fits (a b : Int) (a1 : -9223372036854775808 ≤ a) (a2 : a ≤ 9223372036854775807) (b1 : -9223372036854775808 ≤ b) (b2 : b ≤ 9223372036854775807) (h1 : -9223372036854775808 ≤ a - b) (h2 : a - b ≤ 9223372036854775807) (w : World) :
    Calls Try.prog 12 #[.int .i64 a, .int .i64 b] w fun e w' => e = .returned (.tuple #[.int .i64 (a - b), .bool true]) ∧ w = w' := by
  go_enter Try.func12, Try.ntmps12
  go_wp2
  all_goals go_returns
  all_goals exact ⟨rfl, rfl⟩

theorem refSub_over (a b : Int) (a1 : -9223372036854775808 ≤ a) (a2 : a ≤ 9223372036854775807) (b1 : -9223372036854775808 ≤ b) (b2 : b ≤ 9223372036854775807) (h : 9223372036854775807 < a - b ∨ a - b < -9223372036854775808) (w : World) :
    Calls Try.prog 12 #[.int .i64 a, .int .i64 b] w fun e w' => e = .returned (.tuple #[.int .i64 0, .bool false]) ∧ w = w' := by
  rcases h with h | h
  · go_enter Try.func12, Try.ntmps12
    go_wp2
    all_goals go_returns
    all_goals exact ⟨rfl, rfl⟩
  · go_enter Try.func12, Try.ntmps12
    go_wp2
    all_goals go_returns
    all_goals exact ⟨rfl, rfl⟩

theorem neg_wraps {s : Nat} (h : s ≤ 9223372036854775808) : wrap64 (IntKind.u64.wrap (-(s : Int))) = -(s : Int) := by
  rw [wrap64_eq, IntKind.wrap_u64]
  omega

theorem negative_ok (s : Nat) (h : s ≤ 9223372036854775808) (w : World) :
    Calls Try.prog 29 #[.int .u64 s] w fun e w' => e = .returned (.tuple #[.int .i64 (-(s : Int)), .int .i64 0]) ∧ w = w' := by
  have e := neg_wraps h
  rw [← e]
  clear e
  go_enter Try.func29, Try.ntmps29
  go_wp2
  go_returns
  exact ⟨rfl, rfl⟩

theorem negative_over (s : Nat) (h : 9223372036854775808 < s) (w : World) :
    Calls Try.prog 29 #[.int .u64 s] w fun e w' => e = .returned (.tuple #[.int .i64 0, .int .i64 5]) ∧ w = w' := by
  go_enter Try.func29, Try.ntmps29
  go_wp2
  go_returns
  exact ⟨rfl, rfl⟩

theorem mul_high (a b : Int) (a1 : -9223372036854775808 ≤ a) (a2 : a ≤ 9223372036854775807) (b1 : -9223372036854775808 ≤ b) (b2 : b ≤ 9223372036854775807) (hh : ((hiOf (szOf a * szOf b) : Int) != 0) = true) (w : World) :
    Calls Try.prog 15 #[.int .i64 a, .int .i64 b] w fun e w' => e = .returned (.tuple #[.int .i64 0, .int .i64 5]) ∧ w = w' := by
  go_enter Try.func15, Try.ntmps15
  go_wp2_with (first
    | (go_at_call 28; have hx := HS1; clear hx; refine (size_num b b1 b2 _).mono ?_; rintro e w1 ⟨rfl, rfl⟩)
    | (go_at_call 28; refine (size_num a a1 a2 _).mono ?_; rintro e w1 ⟨rfl, rfl⟩; have HS1 := Lib.hid a1)
    | (go_at_call 27; refine (mul64_num _ _ (szOf_lt a1 a2) (szOf_lt b1 b2) _).mono ?_; rintro e w1 ⟨rfl, rfl⟩))
  go_returns
  exact ⟨rfl, rfl⟩

theorem mul_neg (a b : Int) (a1 : -9223372036854775808 ≤ a) (a2 : a ≤ 9223372036854775807) (b1 : -9223372036854775808 ≤ b) (b2 : b ≤ 9223372036854775807) (hh : ((hiOf (szOf a * szOf b) : Int) != 0) = false) (hs : (!(decide (a < 0) == decide (b < 0))) = true) (hlo : loOf (szOf a * szOf b) ≤ 9223372036854775808) (w : World) :
    Calls Try.prog 15 #[.int .i64 a, .int .i64 b] w fun e w' => e = .returned (.tuple #[.int .i64 (-(loOf (szOf a * szOf b) : Int)), .int .i64 0]) ∧ w = w' := by
  go_enter Try.func15, Try.ntmps15
  go_wp2_with (first
    | (go_at_call 28; have hx := HS1; clear hx; refine (size_num b b1 b2 _).mono ?_; rintro e w1 ⟨rfl, rfl⟩)
    | (go_at_call 28; refine (size_num a a1 a2 _).mono ?_; rintro e w1 ⟨rfl, rfl⟩; have HS1 := Lib.hid a1)
    | (go_at_call 27; refine (mul64_num _ _ (szOf_lt a1 a2) (szOf_lt b1 b2) _).mono ?_; rintro e w1 ⟨rfl, rfl⟩)
    | (go_at_call 29; refine (negative_ok _ hlo _).mono ?_; rintro e w1 ⟨rfl, rfl⟩))
  go_returns
  exact ⟨rfl, rfl⟩

theorem mul_negover (a b : Int) (a1 : -9223372036854775808 ≤ a) (a2 : a ≤ 9223372036854775807) (b1 : -9223372036854775808 ≤ b) (b2 : b ≤ 9223372036854775807) (hh : ((hiOf (szOf a * szOf b) : Int) != 0) = false) (hs : (!(decide (a < 0) == decide (b < 0))) = true) (hlo : 9223372036854775808 < loOf (szOf a * szOf b)) (w : World) :
    Calls Try.prog 15 #[.int .i64 a, .int .i64 b] w fun e w' => e = .returned (.tuple #[.int .i64 0, .int .i64 5]) ∧ w = w' := by
  go_enter Try.func15, Try.ntmps15
  go_wp2_with (first
    | (go_at_call 28; have hx := HS1; clear hx; refine (size_num b b1 b2 _).mono ?_; rintro e w1 ⟨rfl, rfl⟩)
    | (go_at_call 28; refine (size_num a a1 a2 _).mono ?_; rintro e w1 ⟨rfl, rfl⟩; have HS1 := Lib.hid a1)
    | (go_at_call 27; refine (mul64_num _ _ (szOf_lt a1 a2) (szOf_lt b1 b2) _).mono ?_; rintro e w1 ⟨rfl, rfl⟩)
    | (go_at_call 29; refine (negative_over _ hlo _).mono ?_; rintro e w1 ⟨rfl, rfl⟩))
  go_returns
  exact ⟨rfl, rfl⟩

theorem mul_pos (a b : Int) (a1 : -9223372036854775808 ≤ a) (a2 : a ≤ 9223372036854775807) (b1 : -9223372036854775808 ≤ b) (b2 : b ≤ 9223372036854775807) (hh : ((hiOf (szOf a * szOf b) : Int) != 0) = false) (hs : (!(decide (a < 0) == decide (b < 0))) = false) (hlo : loOf (szOf a * szOf b) < 9223372036854775808) (w : World) :
    Calls Try.prog 15 #[.int .i64 a, .int .i64 b] w fun e w' => e = .returned (.tuple #[.int .i64 (loOf (szOf a * szOf b) : Int), .int .i64 0]) ∧ w = w' := by
  have ht : decide ((9223372036854775807 : Int) < (loOf (szOf a * szOf b) : Int)) = false := by rw [decide_eq_false_iff_not]; omega
  go_enter Try.func15, Try.ntmps15
  go_wp2_with (first
    | (go_at_call 28; have hx := HS1; clear hx; refine (size_num b b1 b2 _).mono ?_; rintro e w1 ⟨rfl, rfl⟩)
    | (go_at_call 28; refine (size_num a a1 a2 _).mono ?_; rintro e w1 ⟨rfl, rfl⟩; have HS1 := Lib.hid a1)
    | (go_at_call 27; refine (mul64_num _ _ (szOf_lt a1 a2) (szOf_lt b1 b2) _).mono ?_; rintro e w1 ⟨rfl, rfl⟩))
  go_returns
  exact ⟨rfl, rfl⟩

theorem mul_posover (a b : Int) (a1 : -9223372036854775808 ≤ a) (a2 : a ≤ 9223372036854775807) (b1 : -9223372036854775808 ≤ b) (b2 : b ≤ 9223372036854775807) (hh : ((hiOf (szOf a * szOf b) : Int) != 0) = false) (hs : (!(decide (a < 0) == decide (b < 0))) = false) (hlo : 9223372036854775807 < loOf (szOf a * szOf b)) (w : World) :
    Calls Try.prog 15 #[.int .i64 a, .int .i64 b] w fun e w' => e = .returned (.tuple #[.int .i64 0, .int .i64 5]) ∧ w = w' := by
  have ht : decide ((9223372036854775807 : Int) < (loOf (szOf a * szOf b) : Int)) = true := by rw [decide_eq_true_eq]; omega
  go_enter Try.func15, Try.ntmps15
  go_wp2_with (first
    | (go_at_call 28; have hx := HS1; clear hx; refine (size_num b b1 b2 _).mono ?_; rintro e w1 ⟨rfl, rfl⟩)
    | (go_at_call 28; refine (size_num a a1 a2 _).mono ?_; rintro e w1 ⟨rfl, rfl⟩; have HS1 := Lib.hid a1)
    | (go_at_call 27; refine (mul64_num _ _ (szOf_lt a1 a2) (szOf_lt b1 b2) _).mono ?_; rintro e w1 ⟨rfl, rfl⟩))
  go_returns
  exact ⟨rfl, rfl⟩

set_option maxHeartbeats 1000000 in
theorem refMul_hight (a b : Int) (a1 : -9223372036854775808 ≤ a) (a2 : a ≤ 9223372036854775807) (b1 : -9223372036854775808 ≤ b) (b2 : b ≤ 9223372036854775807) (hh : ((hiOf (szOf a * szOf b) : Int) == 0) = false) (hs : (!(decide (a < 0) == decide (b < 0))) = true) (w : World) :
    Calls Try.prog 16 #[.int .i64 a, .int .i64 b] w fun e w' => ∃ m : Int, e = .returned (.tuple #[.int .i64 m, .bool false]) ∧ Below w.heap.size w w' := by
  go_enter Try.func16, Try.ntmps16
  go_wp2_with (first
    | (go_at_call 30; have hx := HS1; clear hx; refine (refSize_num b b1 b2 _).mono ?_; rintro e w1 ⟨rfl, rfl⟩)
    | (go_at_call 30; refine (refSize_num a a1 a2 _).mono ?_; rintro e w1 ⟨rfl, rfl⟩; have HS1 := Lib.hid a1)
    | (go_at_call 20; refine (times_num _ _ (szOf_lt a1 a2) (szOf_lt b1 b2) _).mono ?_; rintro e w1 ⟨rfl, hb1⟩; have HB1 := Lib.hid hb1; clear hb1))
  go_quiet (fail)
  go_wp2_with fail
  go_returns
  exact ⟨_, rfl, below_drewN (HB1.out.alloc HB1.out.size _) nq⟩

set_option maxHeartbeats 1000000 in
theorem refMul_highf (a b : Int) (a1 : -9223372036854775808 ≤ a) (a2 : a ≤ 9223372036854775807) (b1 : -9223372036854775808 ≤ b) (b2 : b ≤ 9223372036854775807) (hh : ((hiOf (szOf a * szOf b) : Int) == 0) = false) (hs : (!(decide (a < 0) == decide (b < 0))) = false) (w : World) :
    Calls Try.prog 16 #[.int .i64 a, .int .i64 b] w fun e w' => ∃ m : Int, e = .returned (.tuple #[.int .i64 m, .bool false]) ∧ Below w.heap.size w w' := by
  go_enter Try.func16, Try.ntmps16
  go_wp2_with (first
    | (go_at_call 30; have hx := HS1; clear hx; refine (refSize_num b b1 b2 _).mono ?_; rintro e w1 ⟨rfl, rfl⟩)
    | (go_at_call 30; refine (refSize_num a a1 a2 _).mono ?_; rintro e w1 ⟨rfl, rfl⟩; have HS1 := Lib.hid a1)
    | (go_at_call 20; refine (times_num _ _ (szOf_lt a1 a2) (szOf_lt b1 b2) _).mono ?_; rintro e w1 ⟨rfl, hb1⟩; have HB1 := Lib.hid hb1; clear hb1))
  go_quiet (fail)
  go_wp2_with fail
  go_returns
  exact ⟨_, rfl, below_drewN (HB1.out.alloc HB1.out.size _) nq⟩

set_option maxHeartbeats 1000000 in
theorem refMul_neg (a b : Int) (a1 : -9223372036854775808 ≤ a) (a2 : a ≤ 9223372036854775807) (b1 : -9223372036854775808 ≤ b) (b2 : b ≤ 9223372036854775807) (hh : ((hiOf (szOf a * szOf b) : Int) == 0) = true) (hs : (!(decide (a < 0) == decide (b < 0))) = true) (hlo : loOf (szOf a * szOf b) ≤ 9223372036854775808) (w : World) :
    Calls Try.prog 16 #[.int .i64 a, .int .i64 b] w fun e w' => e = .returned (.tuple #[.int .i64 (-(loOf (szOf a * szOf b) : Int)), .bool true]) ∧ Below w.heap.size w w' := by
  rw [← neg_wraps hlo]
  have ht : decide ((loOf (szOf a * szOf b) : Int) ≤ (9223372036854775808 : Int)) = true := by rw [decide_eq_true_eq]; omega
  go_enter Try.func16, Try.ntmps16
  go_wp2_with (first
    | (go_at_call 30; have hx := HS1; clear hx; refine (refSize_num b b1 b2 _).mono ?_; rintro e w1 ⟨rfl, rfl⟩)
    | (go_at_call 30; refine (refSize_num a a1 a2 _).mono ?_; rintro e w1 ⟨rfl, rfl⟩; have HS1 := Lib.hid a1)
    | (go_at_call 20; refine (times_num _ _ (szOf_lt a1 a2) (szOf_lt b1 b2) _).mono ?_; rintro e w1 ⟨rfl, hb1⟩; have HB1 := Lib.hid hb1; clear hb1))
  go_quiet (fail)
  go_wp2_with fail
  go_returns
  exact ⟨rfl, below_drewN (HB1.out.alloc HB1.out.size _) nq⟩

set_option maxHeartbeats 1000000 in
theorem refMul_negover (a b : Int) (a1 : -9223372036854775808 ≤ a) (a2 : a ≤ 9223372036854775807) (b1 : -9223372036854775808 ≤ b) (b2 : b ≤ 9223372036854775807) (hh : ((hiOf (szOf a * szOf b) : Int) == 0) = true) (hs : (!(decide (a < 0) == decide (b < 0))) = true) (hlo : 9223372036854775808 < loOf (szOf a * szOf b)) (w : World) :
    Calls Try.prog 16 #[.int .i64 a, .int .i64 b] w fun e w' => ∃ m : Int, e = .returned (.tuple #[.int .i64 m, .bool false]) ∧ Below w.heap.size w w' := by
  have ht : decide ((loOf (szOf a * szOf b) : Int) ≤ (9223372036854775808 : Int)) = false := by rw [decide_eq_false_iff_not]; omega
  go_enter Try.func16, Try.ntmps16
  go_wp2_with (first
    | (go_at_call 30; have hx := HS1; clear hx; refine (refSize_num b b1 b2 _).mono ?_; rintro e w1 ⟨rfl, rfl⟩)
    | (go_at_call 30; refine (refSize_num a a1 a2 _).mono ?_; rintro e w1 ⟨rfl, rfl⟩; have HS1 := Lib.hid a1)
    | (go_at_call 20; refine (times_num _ _ (szOf_lt a1 a2) (szOf_lt b1 b2) _).mono ?_; rintro e w1 ⟨rfl, hb1⟩; have HB1 := Lib.hid hb1; clear hb1))
  go_quiet (fail)
  go_wp2_with fail
  go_returns
  exact ⟨_, rfl, below_drewN (HB1.out.alloc HB1.out.size _) nq⟩

set_option maxHeartbeats 1000000 in
theorem refMul_pos (a b : Int) (a1 : -9223372036854775808 ≤ a) (a2 : a ≤ 9223372036854775807) (b1 : -9223372036854775808 ≤ b) (b2 : b ≤ 9223372036854775807) (hh : ((hiOf (szOf a * szOf b) : Int) == 0) = true) (hs : (!(decide (a < 0) == decide (b < 0))) = false) (hlo : loOf (szOf a * szOf b) < 9223372036854775808) (w : World) :
    Calls Try.prog 16 #[.int .i64 a, .int .i64 b] w fun e w' => e = .returned (.tuple #[.int .i64 (loOf (szOf a * szOf b) : Int), .bool true]) ∧ Below w.heap.size w w' := by
  have ht : decide ((loOf (szOf a * szOf b) : Int) < (9223372036854775808 : Int)) = true := by rw [decide_eq_true_eq]; omega
  go_enter Try.func16, Try.ntmps16
  go_wp2_with (first
    | (go_at_call 30; have hx := HS1; clear hx; refine (refSize_num b b1 b2 _).mono ?_; rintro e w1 ⟨rfl, rfl⟩)
    | (go_at_call 30; refine (refSize_num a a1 a2 _).mono ?_; rintro e w1 ⟨rfl, rfl⟩; have HS1 := Lib.hid a1)
    | (go_at_call 20; refine (times_num _ _ (szOf_lt a1 a2) (szOf_lt b1 b2) _).mono ?_; rintro e w1 ⟨rfl, hb1⟩; have HB1 := Lib.hid hb1; clear hb1))
  go_quiet (fail)
  go_wp2_with fail
  go_returns
  exact ⟨rfl, below_drewN (HB1.out.alloc HB1.out.size _) nq⟩

set_option maxHeartbeats 1000000 in
theorem refMul_posover (a b : Int) (a1 : -9223372036854775808 ≤ a) (a2 : a ≤ 9223372036854775807) (b1 : -9223372036854775808 ≤ b) (b2 : b ≤ 9223372036854775807) (hh : ((hiOf (szOf a * szOf b) : Int) == 0) = true) (hs : (!(decide (a < 0) == decide (b < 0))) = false) (hlo : 9223372036854775807 < loOf (szOf a * szOf b)) (w : World) :
    Calls Try.prog 16 #[.int .i64 a, .int .i64 b] w fun e w' => ∃ m : Int, e = .returned (.tuple #[.int .i64 m, .bool false]) ∧ Below w.heap.size w w' := by
  have ht : decide ((loOf (szOf a * szOf b) : Int) < (9223372036854775808 : Int)) = false := by rw [decide_eq_false_iff_not]; omega
  go_enter Try.func16, Try.ntmps16
  go_wp2_with (first
    | (go_at_call 30; have hx := HS1; clear hx; refine (refSize_num b b1 b2 _).mono ?_; rintro e w1 ⟨rfl, rfl⟩)
    | (go_at_call 30; refine (refSize_num a a1 a2 _).mono ?_; rintro e w1 ⟨rfl, rfl⟩; have HS1 := Lib.hid a1)
    | (go_at_call 20; refine (times_num _ _ (szOf_lt a1 a2) (szOf_lt b1 b2) _).mono ?_; rintro e w1 ⟨rfl, hb1⟩; have HB1 := Lib.hid hb1; clear hb1))
  go_quiet (fail)
  go_wp2_with fail
  go_returns
  exact ⟨_, rfl, below_drewN (HB1.out.alloc HB1.out.size _) nq⟩

theorem told_false (m : Int) (w : World) :
    Calls Try.prog 13 #[.int .i64 0, .int .i64 5, .int .i64 m, .bool false] w fun e w' => e = .returned (.bool true) ∧ w = w' := by
  go_enter Try.func13, Try.ntmps13
  go_wp2
  go_returns
  exact ⟨rfl, rfl⟩

theorem told_true (m : Int) (w : World) :
    Calls Try.prog 13 #[.int .i64 m, .int .i64 0, .int .i64 m, .bool true] w fun e w' => e = .returned (.bool true) ∧ w = w' := by
  go_enter Try.func13, Try.ntmps13
  go_wp2
  go_returns
  exact ⟨by simp, rfl⟩
end Go.Proofs.Ythpainpeieapfaa
