/-
  Times: the product of two words, bit by bit, is the product.
  Conditions: both are below 2^64.
-/
import Derived.Test.YtademjmnoncieaaWide
import Derived.Deep.LoopGhost
set_option linter.unusedVariables false
namespace Go.Proofs.Ytademjmnoncieaa
open Go.RowKit

def TimesRel (a b : Nat) (w : World) (g : Nat) (x : Value) (wr : World) : Prop :=
  ∃ h l : Nat, x = .int .i64 ((g : Int) - 1) ∧ g ≤ 64 ∧ IsWide (a * (b / 2 ^ g)) h l ∧ Below w.heap.size w wr ∧
    WideAt wr w.heap.size 0 0 ∧ WideAt wr (w.heap.size + 1) h l

theorem half_step (b k : Nat) : b / 2 ^ k = 2 * (b / 2 ^ (k + 1)) + b / 2 ^ k % 2 := by
  have e : b / 2 ^ (k + 1) = b / 2 ^ k / 2 := by rw [Nat.pow_succ, Nat.div_div_eq_div_mul]
  omega

theorem prod_lt (a b k : Nat) (b1 : a < 18446744073709551616) (b2 : b < 18446744073709551616) : a * (b / 2 ^ k) < 340282366920938463463374607431768211456 := by
  have h1 : a * (b / 2 ^ k) ≤ 18446744073709551615 * 18446744073709551615 := Nat.mul_le_mul (by omega) (Nat.le_trans (Nat.div_le_self _ _) (by omega))
  omega

theorem bit_test (b k : Nat) (b2 : b < 18446744073709551616) : (bits BinOp.and IntKind.u64 ((b : Int) / 2 ^ k) 1 == 1) = decide (b / 2 ^ k % 2 = 1) := by
  have e0 : (b : Int) / 2 ^ k = ((b / 2 ^ k : Nat) : Int) := by simp
  have e1 := bits_and_u64_nat (b / 2 ^ k) 1 (Nat.lt_of_le_of_lt (Nat.div_le_self _ _) b2) (by decide)
  have e2 : (b / 2 ^ k) &&& 1 = (b / 2 ^ k) % 2 := Nat.and_one_is_mod _
  rw [e0]
  rw [e2] at e1
  rw [show ((1 : Nat) : Int) = 1 from rfl] at e1
  rw [e1, Bool.eq_iff_iff]
  simp
  omega

theorem times_one {a b k : Nat} (HD : b / 2 ^ k = 2 * (b / 2 ^ (k + 1)) + b / 2 ^ k % 2) (HL : a * (b / 2 ^ k) < 340282366920938463463374607431768211456) (HT : b / 2 ^ k % 2 = 1) :
    ((2 * (a * (b / 2 ^ (k + 1))) + 0) % 340282366920938463463374607431768211456 + a) % 340282366920938463463374607431768211456 = a * (b / 2 ^ k) := by
  have e : a * (b / 2 ^ k) = 2 * (a * (b / 2 ^ (k + 1))) + a := by
    generalize b / 2 ^ k = y at *
    generalize b / 2 ^ (k + 1) = x at *
    rw [HD, HT, Nat.mul_add, Nat.mul_one, Nat.mul_left_comm]
  omega

theorem times_none {a b k : Nat} (HD : b / 2 ^ k = 2 * (b / 2 ^ (k + 1)) + b / 2 ^ k % 2) (HL : a * (b / 2 ^ k) < 340282366920938463463374607431768211456) (HT : ¬b / 2 ^ k % 2 = 1) :
    (2 * (a * (b / 2 ^ (k + 1))) + 0) % 340282366920938463463374607431768211456 = a * (b / 2 ^ k) := by
  have e : a * (b / 2 ^ k) = 2 * (a * (b / 2 ^ (k + 1))) := by
    generalize b / 2 ^ k = y at *
    generalize b / 2 ^ (k + 1) = x at *
    have : y = 2 * x := by omega
    rw [this, Nat.mul_left_comm]
  omega

set_option maxRecDepth 100000 in
set_option maxHeartbeats 4000000 in
theorem times_any (a b : Nat) (b1 : a < 18446744073709551616) (b2 : b < 18446744073709551616) (w : World) :
    Calls Try.prog 28 #[.int .u64 a, .int .u64 b] w fun e w' => e = .returned (.agg #[.int .u64 ((a * b / 18446744073709551616 : Nat) : Int), .int .u64 ((a * b % 18446744073709551616 : Nat) : Int)]) ∧ Below w.heap.size w w' := by
  go_enter Try.func28, Try.ntmps28
  go_wp2_with fail
  go_loopg [6] 64 (fun g x wr => TimesRel a b w g x wr)
  case atStart =>
    refine ⟨0, 0, rfl, by omega, ⟨by decide, by decide, ?_⟩, by go_grown, ?_, ?_⟩
    · rw [Nat.div_eq_of_lt (by omega)]; simp
    · exact (wideAt_new _ _ _ _ rfl).kept ((Below.refl _ _).alloc (Nat.le_refl _) _) (by simp)
    · exact wideAt_new _ _ _ _ (by simp)
  case round =>
    obtain ⟨h, l, rfl, hg, hv, hb, k0, k1⟩ := hrel
    obtain ⟨c00, c01, f00, f01⟩ := k0.cells
    obtain ⟨c10, c11, f10, f11⟩ := k1.cells
    have HV := Lib.hid hv
    clear hv
    cases gk with
    | zero =>
      have q0 := k0.half (.int .u64 h)
      have q1 := (setWide_at k0 h l).cells.2.1
      unfold setWide at q1
      go_wp2_with fail
      refine bodyPost_ret (v := .agg #[.int .u64 h, .int .u64 l]) (by simp [results, Try.results28, go_sem, q0, q1]) rfl ⟨?_, ?_⟩
      · obtain ⟨hh, hl, e⟩ := HV.out
        rw [Nat.pow_zero, Nat.div_one] at e
        rw [← e, Nat.add_comm, Nat.add_mul_div_right _ _ (by decide), Nat.add_mul_mod_self_right, Nat.div_eq_of_lt hl, Nat.mod_eq_of_lt hl, Nat.zero_add]
      · exact setWide_below hb (Nat.le_refl _) h l
    | succ k =>
      have K0 := Lib.hid k0
      have K1 := Lib.hid k1
      have HB := Lib.hid hb
      have sz := k1.lt
      clear k0 k1 hb c00 c01 c10 c11 f00 f01 f10 f11
      obtain ⟨c10, c11, f10, f11⟩ := K1.out.cells
      have hd := half_step b k
      have hlt := prod_lt a b k b1 b2
      have HD := Lib.hid hd
      have HL := Lib.hid hlt
      clear hd hlt
      by_cases hbit : b / 2 ^ k % 2 = 1
      · have ht := bit_test b k b2
        rw [decide_eq_true hbit] at ht
        have HT := Lib.hid hbit
        clear hbit
        go_wp2_with (first
          | (go_at_call 37; refine (twice_num _ _ _ _ HV.out (by decide) _).mono ?_; rintro e w1 ⟨h2, l2, t2, rfl, q2, hb1⟩; have HB1 := Lib.hid hb1; have HQ2 := Lib.hid q2; have k1 := K1.out.later hb1; clear hb1 q2; obtain ⟨d10, d11, e10, e11⟩ := k1.cells; have hs1 := k1.half (.int .u64 h2); have k2 := setWide_at k1 h2 l2; have K11 := Lib.hid k2; clear k1; obtain ⟨g10, g11, i10, i11⟩ := k2.cells; clear k2; unfold setWide at g10 g11 i10 i11)
          | (go_at_call 38; refine (sum_num _ _ 0 a _ a HQ2.out ⟨by decide, b1, by simp⟩ _).mono ?_; rintro e w2 ⟨h3, l3, rfl, q3, hb2⟩; have HB2 := Lib.hid hb2; have HQ3 := Lib.hid q3; have k3 := K11.out.later hb2; clear hb2 q3; have K3 := Lib.hid k3; clear k3; obtain ⟨d20, d21, e20, e21⟩ := K3.out.cells))
        go_roundg k
        case measure => omega
        case rel =>
          have s1 : w.heap.size ≤ wr.heap.size := HB.out.size
          have s2 : wr.heap.size ≤ w1.heap.size := HB1.out.size
          have B1 : Below w.heap.size w (setWide w1 (w.heap.size + 1) h2 l2) := setWide_below (HB.out.trans (HB1.out.mono s1)) (by omega) h2 l2
          have s3 : w.heap.size ≤ (setWide w1 (w.heap.size + 1) h2 l2).heap.size := B1.size
          have B2 : Below w.heap.size w w2 := B1.trans (HB2.out.mono s3)
          have e := times_one HD.out HL.out HT.out
          refine ⟨h3, l3, rfl, by omega, ?_, setWide_below B2 (by omega) h3 l3, ?_, setWide_at K3.out h3 l3⟩
          · rw [← e]; exact HQ3.out
          · have z1 : WideAt (setWide w1 (w.heap.size + 1) h2 l2) w.heap.size 0 0 := setWide_other (K0.out.later HB1.out) (by omega) h2 l2
            exact setWide_other (z1.later HB2.out) (by omega) h3 l3
      · have ht := bit_test b k b2
        rw [decide_eq_false hbit] at ht
        have HT := Lib.hid hbit
        clear hbit
        go_wp2_with (go_at_call 37; refine (twice_num _ _ _ _ HV.out (by decide) _).mono ?_; rintro e w1 ⟨h2, l2, t2, rfl, q2, hb1⟩; have HB1 := Lib.hid hb1; have HQ2 := Lib.hid q2; have k1 := K1.out.later hb1; clear hb1 q2; obtain ⟨d10, d11, e10, e11⟩ := k1.cells; have hs1 := k1.half (.int .u64 h2); have k2 := setWide_at k1 h2 l2; have K11 := Lib.hid k2; clear k1 k2)
        go_roundg k
        case measure => omega
        case rel =>
          have s1 : w.heap.size ≤ wr.heap.size := HB.out.size
          have s2 : wr.heap.size ≤ w1.heap.size := HB1.out.size
          have e := times_none HD.out HL.out HT.out
          refine ⟨h2, l2, rfl, by omega, ?_, setWide_below (HB.out.trans (HB1.out.mono s1)) (by omega) h2 l2, setWide_other (K0.out.later HB1.out) (by omega) h2 l2, K11.out⟩
          rw [← e]; exact HQ2.out
def hiOf (n : Nat) : Nat := n / 18446744073709551616
def loOf (n : Nat) : Nat := n % 18446744073709551616
theorem hi_lt {n : Nat} (h : n < 340282366920938463463374607431768211456) : hiOf n < 18446744073709551616 := by unfold hiOf; omega
theorem lo_lt (n : Nat) : loOf n < 18446744073709551616 := Nat.mod_lt _ (by decide)
theorem isWide_of {n : Nat} (h : n < 340282366920938463463374607431768211456) : IsWide n (hiOf n) (loOf n) := ⟨hi_lt h, lo_lt n, by unfold hiOf loOf; omega⟩
theorem isWide_hi {n h l : Nat} (k : IsWide n h l) : h = hiOf n := by obtain ⟨a, b, c⟩ := k; unfold hiOf; omega
theorem isWide_lo {n h l : Nat} (k : IsWide n h l) : l = loOf n := by obtain ⟨a, b, c⟩ := k; unfold loOf; omega
theorem mul_lt128 {a b : Nat} (b1 : a < 18446744073709551616) (b2 : b < 18446744073709551616) : a * b < 340282366920938463463374607431768211456 := by
  have := prod_lt a b 0 b1 b2
  simpa using this

theorem times_num (a b : Nat) (b1 : a < 18446744073709551616) (b2 : b < 18446744073709551616) (w : World) :
    Calls Try.prog 28 #[.int .u64 a, .int .u64 b] w fun e w' => e = .returned (.agg #[.int .u64 (hiOf (a * b)), .int .u64 (loOf (a * b))]) ∧ Below w.heap.size w w' := times_any a b b1 b2 w

theorem mul64_num (a b : Nat) (b1 : a < 18446744073709551616) (b2 : b < 18446744073709551616) (w : World) :
    Calls Try.prog 41 #[.int .u64 a, .int .u64 b] w fun e w' => e = .returned (.tuple #[.int .u64 (hiOf (a * b)), .int .u64 (loOf (a * b))]) ∧ w = w' := (Try.bits_Mul64 a b b1 b2 w).mono fun _ _ h => ⟨h.1, h.2.symm⟩
end Go.Proofs.Ytademjmnoncieaa
