/-
  The reference's long division, bit by bit, is the division.
  Conditions: each half is below 2^64, the divisor is a word and not 0.
-/
import Derived.Test.YthpainpeieapfaaTimes
import Derived.BigQuiet
set_option linter.unusedVariables false
namespace Go.Proofs.Ythpainpeieapfaa
open Go.RowKit

def DivRel (n c : Nat) (w : World) (g : Nat) (x7 x9 : Value) (wr : World) : Prop :=
  ∃ h l r : Nat, x9 = .int .i64 ((g : Int) - 1) ∧ g ≤ 128 ∧ x7 = .int .u64 r ∧ r = n / 2 ^ g % c ∧ IsWide (n / 2 ^ g / c) h l ∧ Below w.heap.size w wr ∧
    WideAt wr w.heap.size (hiOf n) (loOf n) ∧ WideAt wr (w.heap.size + 1) h l

theorem bit_high (n k : Nat) (b1 : n < 340282366920938463463374607431768211456) (hk : 64 ≤ k) : bits BinOp.and IntKind.u64 ((hiOf n : Int) / 2 ^ (k - 64)) 1 = ((n / 2 ^ k % 2 : Nat) : Int) := by
  have e0 : (hiOf n : Int) / 2 ^ (k - 64) = ((hiOf n / 2 ^ (k - 64) : Nat) : Int) := by simp
  have e1 := bits_and_u64_nat (hiOf n / 2 ^ (k - 64)) 1 (Nat.lt_of_le_of_lt (Nat.div_le_self _ _) (hi_lt b1)) (by decide)
  rw [Nat.and_one_is_mod] at e1
  have e3 : hiOf n / 2 ^ (k - 64) = n / 2 ^ k := by
    show n / 2 ^ 64 / 2 ^ (k - 64) = _
    rw [Nat.div_div_eq_div_mul, ← Nat.pow_add]
    congr 2
    omega
  rw [e3] at e1 e0
  rw [e0]
  exact e1

theorem bit_low (n k : Nat) (hk : ¬64 ≤ k) : bits BinOp.and IntKind.u64 ((loOf n : Int) / 2 ^ (k % 64)) 1 = ((n / 2 ^ k % 2 : Nat) : Int) := by
  have e0 : (loOf n : Int) / 2 ^ (k % 64) = ((loOf n / 2 ^ (k % 64) : Nat) : Int) := by simp
  have e1 := bits_and_u64_nat (loOf n / 2 ^ (k % 64)) 1 (Nat.lt_of_le_of_lt (Nat.div_le_self _ _) (lo_lt n)) (by decide)
  rw [Nat.and_one_is_mod] at e1
  have e3 : loOf n / 2 ^ (k % 64) % 2 = n / 2 ^ k % 2 := by
    have h1 : k % 64 = k := Nat.mod_eq_of_lt (by omega)
    rw [h1]
    have h2 : (loOf n).testBit k = n.testBit k := by
      show (n % 2 ^ 64).testBit k = _
      rw [Nat.testBit_mod_two_pow]
      simp
      omega
    rw [Nat.testBit_eq_decide_div_mod_eq, Nat.testBit_eq_decide_div_mod_eq, decide_eq_decide] at h2
    omega
  rw [e3] at e1
  rw [e0]
  exact e1

theorem div_two {n k c q r bt : Nat} (hc : 0 < c) (hr : r = n / 2 ^ (k + 1) % c) (hq : q = n / 2 ^ (k + 1) / c) (hbt : bt = n / 2 ^ k % 2) : n / 2 ^ k = c * (2 * q) + (2 * r + bt) ∧ r < c ∧ bt < 2 := by
  have h1 := half_step n k
  have h2 := Nat.div_add_mod (n / 2 ^ (k + 1)) c
  rw [← hr, ← hq] at h2
  refine ⟨?_, by rw [hr]; exact Nat.mod_lt _ hc, by omega⟩
  rw [h1, ← hbt, ← h2, Nat.mul_left_comm]
  omega

theorem div_less {P c q s : Nat} (h : P = c * (2 * q) + s) (hs : s < c) : P % c = s ∧ P / c = 2 * q := by
  have := (Nat.div_mod_unique (a := P) (b := c) (c := s) (d := 2 * q) (by omega)).2 ⟨by omega, hs⟩
  exact ⟨this.2, this.1⟩

theorem div_more {P c q s : Nat} (h : P = c * (2 * q) + s) (h1 : c ≤ s) (h2 : s < 2 * c) : P % c = s - c ∧ P / c = 2 * q + 1 := by
  have e : c * (2 * q + 1) = c * (2 * q) + c := by rw [Nat.mul_add, Nat.mul_one]
  have := (Nat.div_mod_unique (a := P) (b := c) (c := s - c) (d := 2 * q + 1) (by omega)).2 ⟨by omega, by omega⟩
  exact ⟨this.2, this.1⟩

theorem even_lo {q h l : Nat} (k : IsWide ((2 * q + 0) % 340282366920938463463374607431768211456) h l) : l + 1 < 18446744073709551616 := by
  obtain ⟨a, b, c⟩ := k
  omega

theorem incWide_at {w : World} {b h l : Nat} (k : WideAt w b h l) : WideAt (w.setCell ⟨b, 1, none⟩ (.int .u64 ((l : Int) + 1))) b h (l + 1) := heap_setCell_at _ _ _ _ _ _ _ k
theorem incWide_other {w : World} {b c h l : Nat} (k : WideAt w c h l) (hne : c ≠ b) (x : Value) : WideAt (w.setCell ⟨b, 1, none⟩ x) c h l := by
  unfold WideAt
  rw [Below.heap_setCell _ _ _ _ hne]
  exact k

theorem below_drewN {B : Nat} {a w : World} (h : Below B a w) (n : Nat) : Below B a (w.drewN n) := ⟨h.os, h.tape, h.output, h.size, h.block⟩

theorem divRel_more {n c k r r2 bt h2 l2 : Nat} {w wr w1 : World} (hk : k + 1 ≤ 128) (K0 : WideAt wr w.heap.size (hiOf n) (loOf n)) (HB : Below w.heap.size w wr) (HB1 : Below wr.heap.size wr w1)
    (K11 : WideAt (setWide w1 (w.heap.size + 1) h2 l2) (w.heap.size + 1) h2 l2) (HQ1 : n / 2 ^ k = c * (2 * (n / 2 ^ (k + 1) / c)) + (2 * r + bt)) (hbt : bt < 2) (hr2 : r2 = (2 * r + bt) % 18446744073709551616) (hc : c < 18446744073709551616) (hrc : r < c)
    (b1 : n < 340282366920938463463374607431768211456) (HQ2 : IsWide ((2 * (n / 2 ^ (k + 1) / c) + 0) % 340282366920938463463374607431768211456) h2 l2) (hm : c ≤ 2 * r + bt) (x : Int) (hx : x = IntKind.u64.wrap ((r2 : Int) - (c : Int))) :
    DivRel n c w k (.int .u64 x) (.int .i64 ((k : Int) - 1)) ((setWide w1 (w.heap.size + 1) h2 l2).setCell ⟨w.heap.size + 1, 1, none⟩ (.int .u64 ((l2 : Int) + 1))) := by
  obtain ⟨e1, e2⟩ := div_more HQ1 hm (by omega)
  have s1 : w.heap.size ≤ wr.heap.size := HB.size
  have e3 : x = ((n / 2 ^ k % c : Nat) : Int) := by rw [hx, IntKind.wrap_u64, e1]; omega
  have hl := even_lo HQ2
  obtain ⟨a1, a2, a3⟩ := HQ2
  refine ⟨h2, l2 + 1, n / 2 ^ k % c, rfl, by omega, by rw [e3], rfl, ⟨a1, by omega, ?_⟩, (setWide_below (HB.trans (HB1.mono s1)) (by omega) h2 l2).setCell (by simp) _,
    incWide_other (setWide_other (K0.later HB1) (by omega) h2 l2) (by omega) _, incWide_at K11⟩
  rw [e2]
  have h3 : n / 2 ^ k / c ≤ n := Nat.le_trans (Nat.div_le_self _ _) (Nat.div_le_self _ _)
  omega

theorem divRel_less {n c k r r2 bt h2 l2 : Nat} {w wr w1 : World} (hk : k + 1 ≤ 128) (K0 : WideAt wr w.heap.size (hiOf n) (loOf n)) (HB : Below w.heap.size w wr) (HB1 : Below wr.heap.size wr w1)
    (K11 : WideAt (setWide w1 (w.heap.size + 1) h2 l2) (w.heap.size + 1) h2 l2) (HQ1 : n / 2 ^ k = c * (2 * (n / 2 ^ (k + 1) / c)) + (2 * r + bt)) (hbt : bt < 2) (hr2 : r2 = (2 * r + bt) % 18446744073709551616) (hc : c < 18446744073709551616) (hrc : r < c)
    (b1 : n < 340282366920938463463374607431768211456) (HQ2 : IsWide ((2 * (n / 2 ^ (k + 1) / c) + 0) % 340282366920938463463374607431768211456) h2 l2) (hm : 2 * r + bt < c) :
    DivRel n c w k (.int .u64 r2) (.int .i64 ((k : Int) - 1)) (setWide w1 (w.heap.size + 1) h2 l2) := by
  obtain ⟨e1, e2⟩ := div_less HQ1 hm
  have s1 : w.heap.size ≤ wr.heap.size := HB.size
  obtain ⟨a1, a2, a3⟩ := HQ2
  refine ⟨h2, l2, r2, rfl, by omega, rfl, by rw [e1, hr2]; omega, ⟨a1, a2, ?_⟩, setWide_below (HB.trans (HB1.mono s1)) (by omega) h2 l2,
    setWide_other (K0.later HB1) (by omega) h2 l2, K11⟩
  rw [e2]
  have h3 : n / 2 ^ k / c ≤ n := Nat.le_trans (Nat.div_le_self _ _) (Nat.div_le_self _ _)
  omega

set_option maxRecDepth 100000 in
set_option maxHeartbeats 4000000 in
theorem div_any (n c : Nat) (b1 : n < 340282366920938463463374607431768211456) (b2 : c < 18446744073709551616) (b3 : 0 < c) (w : World) :
    Calls Try.prog 19 #[.agg #[.int .u64 (hiOf n), .int .u64 (loOf n)], .int .u64 c] w fun e w' => e = .returned (.tuple #[.int .u64 (loOf (n / c)), .int .u64 ((n % c : Nat) : Int), .bool (hiOf (n / c) == 0)]) ∧ Below w.heap.size w w' := by
  go_enter Try.func19, Try.ntmps19
  go_wp2_with fail
  go_loopg [7, 9] 128 (fun g x7 x9 wr => DivRel n c w g x7 x9 wr)
  case atStart =>
    refine ⟨0, 0, 0, rfl, by omega, rfl, ?_, ⟨by decide, by decide, ?_⟩, by go_grown, ?_, ?_⟩
    · rw [Nat.div_eq_of_lt (by omega), Nat.zero_mod]
    · have e : n / 2 ^ 128 = 0 := Nat.div_eq_of_lt (by omega)
      rw [e, Nat.zero_div]
    · exact (wideAt_new _ _ _ _ rfl).kept ((Below.refl _ _).alloc (Nat.le_refl _) _) (by simp)
    · exact wideAt_new _ _ _ _ (by simp)
  case round =>
    obtain ⟨h, l, r, rfl, hg, rfl, hr, hv, hb, k0, k1⟩ := hrel
    obtain ⟨c00, c01, f00, f01⟩ := k0.cells
    obtain ⟨c10, c11, f10, f11⟩ := k1.cells
    have HV := Lib.hid hv
    have HR := Lib.hid hr
    clear hv hr
    cases gk with
    | zero =>
      go_wp2_with fail
      go_quiet (fail)
      go_wp2_with fail
      go_returns
      obtain ⟨a1, a2, a3⟩ := HV.out
      have e := HR.out
      rw [Nat.pow_zero, Nat.div_one] at e a3
      have e1 : h = hiOf (n / c) := isWide_hi ⟨a1, a2, a3⟩
      have e2 : l = loOf (n / c) := isWide_lo ⟨a1, a2, a3⟩
      rw [← e1, ← e2, ← e]
      refine ⟨?_, below_drewN hb nq⟩
      have e3 : ((h : Int) == 0) = (h == 0) := by rw [Bool.eq_iff_iff]; simp
      show Ending.returned (.tuple #[.int .u64 l, .int .u64 r, .bool ((h : Int) == 0)]) = _
      rw [e3]
    | succ k =>
      have K0 := Lib.hid k0
      have K1 := Lib.hid k1
      have HB := Lib.hid hb
      have sz := k1.lt
      obtain ⟨bt, hbt⟩ : ∃ bt : Nat, bt = n / 2 ^ k % 2 := ⟨_, rfl⟩
      obtain ⟨r2, hr2⟩ : ∃ r2 : Nat, r2 = (2 * r + bt) % 18446744073709551616 := ⟨_, rfl⟩
      obtain ⟨q1, q2, q3⟩ := div_two b3 HR.out rfl hbt
      have HQ1 := Lib.hid q1
      have HQ5 := Lib.hid q3
      have eo := or_bit r bt q3
      rw [← hr2] at eo
      have HBT := Lib.hid hbt
      have HR2 := Lib.hid hr2
      have hr2lt : r2 < 18446744073709551616 := by omega
      have hrc : r < c := q2
      have ebit : (64 ≤ k ∧ bits BinOp.and IntKind.u64 ((hiOf n : Int) / 2 ^ (k - 64)) 1 = (bt : Int)) ∨ (¬64 ≤ k ∧ bits BinOp.and IntKind.u64 ((loOf n : Int) / 2 ^ (k % 64)) 1 = (bt : Int)) := by
        by_cases hk : 64 ≤ k
        · exact .inl ⟨hk, by rw [hbt]; exact bit_high n k b1 hk⟩
        · exact .inr ⟨hk, by rw [hbt]; exact bit_low n k hk⟩
      have eway : ((((r : Int) / 9223372036854775808 == 1) = true ∧ 9223372036854775808 ≤ r) ∨ (((r : Int) / 9223372036854775808 == 1) = false ∧ r < 9223372036854775808 ∧ c ≤ r2)) ∨ (((r : Int) / 9223372036854775808 == 1) = false ∧ r < 9223372036854775808 ∧ r2 < c) := by
        by_cases h1 : 9223372036854775808 ≤ r
        · refine .inl (.inl ⟨?_, h1⟩); simp; omega
        · by_cases h2 : c ≤ r2
          · refine .inl (.inr ⟨?_, by omega, h2⟩); simp; omega
          · refine .inr ⟨?_, by omega, by omega⟩; simp; omega
      clear k0 k1 hb f00 f01 f10 f11 hbt hr2 q1 q2 q3 
      obtain ⟨c00, c01, f00, f01⟩ := K0.out.cells
      obtain ⟨c10, c11, f10, f11⟩ := K1.out.cells
      rcases eway with eway | ⟨ov, ov2, hc2⟩
      · rcases eway with ⟨ov, ov2⟩ | ⟨ov, ov2, hc2⟩
        · rcases ebit with ⟨hk, eb⟩ | ⟨hk, eb⟩
          all_goals go_wp2_with (go_at_call 32; refine (twice_num _ _ _ _ HV.out (by decide) _).mono ?_; rintro e w1 ⟨h2, l2, t2, rfl, q2, hb1⟩; have hl2 := even_lo q2; have HB1 := Lib.hid hb1; have HQ2 := Lib.hid q2; have k1 := K1.out.later hb1; clear hb1 q2; obtain ⟨d10, d11, e10, e11⟩ := k1.cells; have hs1 := k1.half (.int .u64 h2); have k2 := setWide_at k1 h2 l2; have K11 := Lib.hid k2; clear k1; obtain ⟨g10, g11, i10, i11⟩ := k2.cells; clear k2; unfold setWide at g10 g11 i10 i11)
          all_goals go_roundg k
          all_goals first
            | omega
            | (have h1 := HR2.out; have h2 := HQ5.out; exact divRel_more (by omega) K0.out HB.out HB1.out K11.out HQ1.out HQ5.out HR2.out b2 hrc b1 HQ2.out (by omega) _ (by first | rfl | (rw [IntKind.wrap_u64]; omega)))
        · have ew : IntKind.u64.wrap ((r : Int) * 2) = (r : Int) * 2 := by rw [IntKind.wrap_u64]; omega
          rw [ew] at eo
          clear ew
          rcases ebit with ⟨hk, eb⟩ | ⟨hk, eb⟩
          all_goals go_wp2_with (go_at_call 32; refine (twice_num _ _ _ _ HV.out (by decide) _).mono ?_; rintro e w1 ⟨h2, l2, t2, rfl, q2, hb1⟩; have hl2 := even_lo q2; have HB1 := Lib.hid hb1; have HQ2 := Lib.hid q2; have k1 := K1.out.later hb1; clear hb1 q2; obtain ⟨d10, d11, e10, e11⟩ := k1.cells; have hs1 := k1.half (.int .u64 h2); have k2 := setWide_at k1 h2 l2; have K11 := Lib.hid k2; clear k1; obtain ⟨g10, g11, i10, i11⟩ := k2.cells; clear k2; unfold setWide at g10 g11 i10 i11)
          all_goals go_roundg k
          all_goals first
            | omega
            | (have h1 := HR2.out; have h2 := HQ5.out; exact divRel_more (by omega) K0.out HB.out HB1.out K11.out HQ1.out HQ5.out HR2.out b2 hrc b1 HQ2.out (by omega) _ (by first | rfl | (rw [IntKind.wrap_u64]; omega)))
      · have ew : IntKind.u64.wrap ((r : Int) * 2) = (r : Int) * 2 := by rw [IntKind.wrap_u64]; omega
        rw [ew] at eo
        clear ew
        rcases ebit with ⟨hk, eb⟩ | ⟨hk, eb⟩
        all_goals go_wp2_with (go_at_call 32; refine (twice_num _ _ _ _ HV.out (by decide) _).mono ?_; rintro e w1 ⟨h2, l2, t2, rfl, q2, hb1⟩; have hl2 := even_lo q2; have HB1 := Lib.hid hb1; have HQ2 := Lib.hid q2; have k1 := K1.out.later hb1; clear hb1 q2; obtain ⟨d10, d11, e10, e11⟩ := k1.cells; have hs1 := k1.half (.int .u64 h2); have k2 := setWide_at k1 h2 l2; have K11 := Lib.hid k2; clear k1; obtain ⟨g10, g11, i10, i11⟩ := k2.cells; clear k2; unfold setWide at g10 g11 i10 i11)
        all_goals go_roundg k
        all_goals first
          | omega
          | (have h1 := HR2.out; have h2 := HQ5.out; exact divRel_less (by omega) K0.out HB.out HB1.out K11.out HQ1.out HQ5.out HR2.out b2 hrc b1 HQ2.out (by omega))
end Go.Proofs.Ythpainpeieapfaa
