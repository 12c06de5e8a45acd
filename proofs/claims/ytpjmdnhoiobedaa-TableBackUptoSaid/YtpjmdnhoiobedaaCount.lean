/-
  math/bits.OnesCount64, and Count, Lowest and Highest of the program.
  Conditions: the numbers are of their kinds.
-/
import Derived.Test.YtpjmdnhoiobedaaPlain
import Derived.Test.YtpjmdnhoiobedaaPopMath
set_option linter.unusedVariables false
namespace Go.Proofs.Ytpjmdnhoiobedaa
open Go.RowKit

theorem wrapU (n : Nat) (h : n < 18446744073709551616) : IntKind.u64.wrap (n : Int) = (n : Int) := by
  rw [IntKind.wrap_u64]; omega
theorem andU (a b : Nat) (ha : a < 18446744073709551616) (hb : b < 18446744073709551616) : bits .and .u64 (a : Int) (b : Int) = ((a &&& b : Nat) : Int) := bits_and_u64_nat a b ha hb
theorem mask127 (x : Nat) (h : x < 9223372036854775808) : bits .and .i64 (x : Int) 127 = ((x % 128 : Nat) : Int) := by
  have h1 : (BitVec.ofInt 64 (x : Int)).toNat = x := by
    rw [BitVec.ofInt_natCast, BitVec.toNat_ofNat]; exact Nat.mod_eq_of_lt (by omega)
  have h2 : (BitVec.ofInt 64 (127 : Int)).toNat = 127 := by decide
  show IntKind.i64.wrap ((BitVec.ofInt 64 (x : Int) &&& BitVec.ofInt 64 127).toNat : Int) = _
  have h3 : x &&& 127 = x % 128 := Nat.and_two_pow_sub_one_eq_mod x 7
  rw [BitVec.toNat_and, h1, h2, h3]
  exact IntWalk.i64_in _ (by omega)

structure Ones (m : Nat) (a1 a2 x1 b1 b2 x2 y x3 x4 x5 x6 : Int) : Prop where
  e1 : bits .and .u64 ((m : Int) / 2) 6148914691236517205 = a1
  e2 : bits .and .u64 (m : Int) 6148914691236517205 = a2
  e3 : IntKind.u64.wrap (a1 + a2) = x1
  e4 : bits .and .u64 (x1 / 4) 3689348814741910323 = b1
  e5 : bits .and .u64 x1 3689348814741910323 = b2
  e6 : IntKind.u64.wrap (b1 + b2) = x2
  e7 : IntKind.u64.wrap (x2 / 16 + x2) = y
  e8 : bits .and .u64 y 1085102592571150095 = x3
  e9 : IntKind.u64.wrap (x3 + x3 / 256) = x4
  e10 : IntKind.u64.wrap (x4 + x4 / 65536) = x5
  e11 : IntKind.u64.wrap (x5 + x5 / 4294967296) = x6
  e12 : IntKind.i64.wrap x6 = x6
  e13 : bits .and .i64 x6 127 = (cnt m : Int)

theorem and_le_r (a K : Nat) : a &&& K ≤ K := Nat.and_le_right

theorem ones_words (m : Nat) (hm : m < 18446744073709551616) : ∃ a1 a2 x1 b1 b2 x2 y x3 x4 x5 x6 : Int, Ones m a1 a2 x1 b1 b2 x2 y x3 x4 x5 x6 := by
  obtain ⟨x1, x2, x3, x4, x5, x6, h1, h2, h3, g3, h4, g4, h5, g5, h6, g6, h7⟩ := ones_nat m hm
  have l1 := and_le_r (m / 2) 6148914691236517205
  have l2 := and_le_r m 6148914691236517205
  have l3 := and_le_r (x1 / 4) 3689348814741910323
  have l4 := and_le_r x1 3689348814741910323
  have p1 := andU (m / 2) 6148914691236517205 (by omega) (by decide)
  have p2 := andU m 6148914691236517205 hm (by decide)
  have p3 := andU (x1 / 4) 3689348814741910323 (by omega) (by decide)
  have p4 := andU x1 3689348814741910323 (by omega) (by decide)
  have p5 := andU (x2 / 16 + x2) 1085102592571150095 (by omega) (by decide)
  refine ⟨_, _, x1, _, _, x2, ((x2 / 16 + x2 : Nat) : Int), x3, x4, x5, x6, p1, p2, ?_, p3, p4, ?_, ?_, ?_, ?_, ?_, ?_, ?_, ?_⟩
  · rw [← h1]; exact wrapU _ (by omega)
  · rw [← h2]; exact wrapU _ (by omega)
  · exact wrapU (x2 / 16 + x2) (by omega)
  · rw [← h3]; exact p5
  · rw [← h4]; exact wrapU (x3 + x3 / 256) (by omega)
  · rw [← h5]; exact wrapU (x4 + x4 / 65536) (by omega)
  · rw [← h6]; exact wrapU (x5 + x5 / 4294967296) (by omega)
  · exact IntWalk.i64_in _ (by omega)
  · rw [mask127 _ g6, h7]

set_option maxHeartbeats 1000000 in
theorem ones_any (m : Nat) (w : World) (hm : m < 18446744073709551616) : Calls Try.prog 81 #[.int .u64 m] w (Ret (.int .i64 (cnt m)) w) := by
  obtain ⟨a1, a2, x1, b1, b2, x2, y, x3, x4, x5, x6, e1, e2, e3, e4, e5, e6, e7, e8, e9, e10, e11, e12, e13⟩ := ones_words m hm
  generalize cnt m = c at *
  go_enter Try.func81, Try.ntmps81
  go_wp2
  go_ret
  exact ⟨rfl, rfl⟩

set_option maxHeartbeats 1000000 in
theorem count_any (m : Nat) (w : World) (hm : m < 18446744073709551616) : Calls Try.prog 69 #[.int .u64 m] w (Ret (.int .i64 (cnt m)) w) := by
  have HO := Lib.hid (ones_any m w hm)
  go_enter Try.func69, Try.ntmps69
  go_wp2_with (go_at_call 81; refine HO.out.mono ?_; rintro e w' ⟨rfl, rfl⟩)
  go_ret
  exact ⟨rfl, rfl⟩

/-- How many of them a k asks for. -/
def takN (m : Nat) (k : Int) : Nat := (min (max k 0) (cnt m)).toNat
theorem takN_le (m : Nat) (k : Int) : takN m k ≤ cnt m := by unfold takN; omega
theorem high_lt (m k : Nat) : highN m k < 18446744073709551616 := setP_lt _
theorem low_lt (m k : Nat) : lowN m k < 18446744073709551616 := setP_lt _

theorem andNot_word (a b : Nat) (ha : a < 18446744073709551616) (hb : b < 18446744073709551616) : bits .andNot .u64 (a : Int) (b : Int) = (lessN a b : Int) := by
  rw [u64_andNot_nat a b ha hb]
  congr 1
  have h1 : a &&& (18446744073709551615 - b) < 18446744073709551616 := Nat.lt_of_le_of_lt Nat.and_le_left ha
  refine eq_setP h1 (fun j hj => ?_)
  have e : 18446744073709551615 - b = 2 ^ 64 - (b + 1) := by rw [two64]; omega
  rw [Nat.testBit_and, e, Nat.testBit_two_pow_sub_succ (by rw [two64]; exact hb)]
  simp [hj]
theorem clear_word {m i : Nat} (hi : i < cnt m) : bits .and .u64 (highN m i : Int) (IntKind.u64.wrap ((highN m i : Int) - 1)) = (highN m (i + 1) : Int) := by
  have h0 : highN m i ≠ 0 := by
    obtain ⟨k, hk, hb, hc⟩ := tick_ex hi
    exact ne_zero_of (j := k) (by unfold highN; rw [setP_bit]; simp [hk, hb, hc])
  have h1 := high_lt m i
  have e : IntKind.u64.wrap ((highN m i : Int) - 1) = ((highN m i - 1 : Nat) : Int) := by rw [IntKind.wrap_u64]; omega
  rw [e, bits_and_u64_nat _ _ h1 (by omega), high_clear hi]

def LowRel (m t : Nat) (s i : Value) : Prop := ∃ j : Nat, j ≤ t ∧ i = .int .i64 j ∧ s = .int .u64 (highN m j)

/-- What Highest leaves. -/
def leftN (m : Nat) (k : Int) : Nat := cnt m - takN m k
end Go.Proofs.Ytpjmdnhoiobedaa
