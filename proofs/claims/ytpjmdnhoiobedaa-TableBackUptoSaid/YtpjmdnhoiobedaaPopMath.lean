/-
  Numbers alone: how many bits are set, by adding fields side by side.
  Conditions: the number is below 2^64.
-/
import Derived.Test.YtpjmdnhoiobedaaSetMath
import Derived.Laws.BitsAllLaws
set_option linter.unusedVariables false
namespace Go.Proofs.Ytpjmdnhoiobedaa

/-- Bits, from the lowest on. -/
def cntL : Nat → Nat → Nat
  | 0, _ => 0
  | k + 1, m => m % 2 + cntL k (m / 2)

theorem cntL_succ : ∀ (k m : Nat), cntL (k + 1) m = cntL k m + (m.testBit k).toNat
  | 0, m => by
    simp only [cntL, Nat.testBit_zero]
    rcases Nat.mod_two_eq_zero_or_one m with h | h <;> simp [h]
  | k + 1, m => by
    have ih := cntL_succ k (m / 2)
    rw [cntL, ih, Nat.testBit_succ]
    simp only [cntL]
    omega
theorem cntT_L (m k : Nat) : cntT m k = cntL k m := by
  induction k with
  | zero => rfl
  | succ k ih => rw [cntT_succ, cntL_succ, ih]
theorem cntL_byte (k m : Nat) : cntL (k + 8) m = cntL 8 (m % 256) + cntL k (m / 256) := by
  simp only [cntL, Nat.div_div_eq_div_mul, Nat.reduceMul]
  omega

theorem and_split {a k : Nat} (ha : a < 256) (hk : k < 256) (r K : Nat) : (a + 256 * r) &&& (k + 256 * K) = (a &&& k) + 256 * (r &&& K) := by
  have h1 := @Nat.and_div_two_pow (a + 256 * r) (k + 256 * K) 8
  have h2 := @Nat.and_mod_two_pow (a + 256 * r) (k + 256 * K) 8
  simp only [Nat.reducePow] at h1 h2
  have e1 : (a + 256 * r) / 256 = r := by omega
  have e2 : (k + 256 * K) / 256 = K := by omega
  have e3 : (a + 256 * r) % 256 = a := by omega
  have e4 : (k + 256 * K) % 256 = k := by omega
  rw [e1, e2] at h1
  rw [e3, e4] at h2
  omega

def S1 (m K : Nat) : Nat := (m / 2 &&& K) + (m &&& K)
def S2 (m K : Nat) : Nat := (m / 4 &&& K) + (m &&& K)
def S3 (m K : Nat) : Nat := (m / 16 + m) &&& K
def s1 (b : Nat) : Nat := (b / 2 &&& 85) + (b &&& 85)
def s2 (b : Nat) : Nat := (b / 4 &&& 51) + (b &&& 51)
def s3 (b : Nat) : Nat := (b / 16 + b) &&& 15

theorem d1 : ∀ b, b < 256 → ∀ e, e < 2 → (b / 2 + 128 * e) &&& 85 = b / 2 &&& 85 := by decide +kernel
theorem d2 : ∀ b, b < 256 → ∀ e, e < 4 → (b / 4 + 64 * e) &&& 51 = b / 4 &&& 51 := by decide +kernel
theorem d3 : ∀ b, b < 69 → ∀ e, e < 5 → (b / 16 + b + 16 * e) &&& 15 = (b / 16 + b) &&& 15 := by decide +kernel
theorem d4 : ∀ b, b < 256 → s1 b < 256 ∧ s2 (s1 b) < 69 ∧ s2 (s1 b) % 16 < 5 ∧ s3 (s2 (s1 b)) = cntL 8 b ∧ cntL 8 b < 9 := by decide +kernel

theorem S1_byte {b : Nat} (hb : b < 256) (r K : Nat) : S1 (b + 256 * r) (85 + 256 * K) = s1 b + 256 * S1 r K := by
  have e : (b + 256 * r) / 2 = (b / 2 + 128 * (r % 2)) + 256 * (r / 2) := by omega
  unfold S1 s1
  rw [e, and_split (by omega) (by decide), and_split hb (by decide), d1 b hb _ (by omega)]
  omega
theorem S2_byte {b : Nat} (hb : b < 256) (r K : Nat) : S2 (b + 256 * r) (51 + 256 * K) = s2 b + 256 * S2 r K := by
  have e : (b + 256 * r) / 4 = (b / 4 + 64 * (r % 4)) + 256 * (r / 4) := by omega
  unfold S2 s2
  rw [e, and_split (by omega) (by decide), and_split hb (by decide), d2 b hb _ (by omega)]
  omega
theorem S3_byte {b : Nat} (hb : b < 69) (r K : Nat) (hr : r % 16 < 5) : S3 (b + 256 * r) (15 + 256 * K) = s3 b + 256 * S3 r K := by
  have e : (b + 256 * r) / 16 + (b + 256 * r) = (b / 16 + b + 16 * (r % 16)) + 256 * (r / 16 + r) := by omega
  unfold S3 s3
  rw [e, and_split (by omega) (by decide), d3 b hb _ hr]

def kk (c : Nat) : Nat → Nat
  | 0 => 0
  | n + 1 => c + 256 * kk c n
def cB (m : Nat) : Nat := cntL 8 (m % 256)
theorem cB_lt (m : Nat) : cB m < 9 := (d4 _ (Nat.mod_lt _ (by decide))).2.2.2.2
theorem cntL_cB (k m : Nat) : cntL (k + 8) m = cB m + cntL k (m / 256) := cntL_byte k m
def dig : Nat → Nat → Nat
  | 0, _ => 0
  | n + 1, m => cB m + 256 * dig n (m / 256)
theorem dig_zero (m : Nat) : dig 0 m = 0 := rfl
theorem dig_succ (n m : Nat) : dig (n + 1) m = cB m + 256 * dig n (m / 256) := rfl

theorem fields : ∀ (n m : Nat), m < 256 ^ n → S2 (S1 m (kk 85 n)) (kk 51 n) % 16 < 5 ∧ S3 (S2 (S1 m (kk 85 n)) (kk 51 n)) (kk 15 n) = dig n m
  | 0, m, h => by
    have : m = 0 := by simpa using h
    subst this
    decide
  | n + 1, m, h => by
    have hr : m / 256 < 256 ^ n := by rw [Nat.pow_succ] at h; omega
    obtain ⟨i1, i2⟩ := fields n (m / 256) hr
    have e : m = m % 256 + 256 * (m / 256) := by omega
    have hb : m % 256 < 256 := by omega
    obtain ⟨q1, q2, q3, q4, _⟩ := d4 _ hb
    have k1 : kk 85 (n + 1) = 85 + 256 * kk 85 n := rfl
    have k2 : kk 51 (n + 1) = 51 + 256 * kk 51 n := rfl
    have k3 : kk 15 (n + 1) = 15 + 256 * kk 15 n := rfl
    have z : S2 (S1 m (kk 85 (n + 1))) (kk 51 (n + 1)) = s2 (s1 (m % 256)) + 256 * S2 (S1 (m / 256) (kk 85 n)) (kk 51 n) := by
      rw [k1, k2]
      conv => lhs; rw [e]
      rw [S1_byte hb, S2_byte q1]
    rw [z, k3, S3_byte q2 _ _ i1, i2, q4]
    exact ⟨by omega, rfl⟩

/-- Digits to the base 256. -/
def p8 (c0 c1 c2 c3 c4 c5 c6 c7 : Nat) : Nat := c0 + 256 * (c1 + 256 * (c2 + 256 * (c3 + 256 * (c4 + 256 * (c5 + 256 * (c6 + 256 * c7))))))
theorem p8_lt (B c0 c1 c2 c3 c4 c5 c6 c7 : Nat) (h0 : c0 ≤ B) (h1 : c1 ≤ B) (h2 : c2 ≤ B) (h3 : c3 ≤ B) (h4 : c4 ≤ B) (h5 : c5 ≤ B) (h6 : c6 ≤ B) (h7 : c7 ≤ B) :
    p8 c0 c1 c2 c3 c4 c5 c6 c7 ≤ 72340172838076673 * B := by
  unfold p8
  omega
theorem p8_add (a0 a1 a2 a3 a4 a5 a6 a7 b0 b1 b2 b3 b4 b5 b6 b7 : Nat) :
    p8 a0 a1 a2 a3 a4 a5 a6 a7 + p8 b0 b1 b2 b3 b4 b5 b6 b7 = p8 (a0 + b0) (a1 + b1) (a2 + b2) (a3 + b3) (a4 + b4) (a5 + b5) (a6 + b6) (a7 + b7) := by
  unfold p8
  omega
theorem p8_shift (c0 c1 c2 c3 c4 c5 c6 c7 : Nat) (h0 : c0 < 256) : p8 c0 c1 c2 c3 c4 c5 c6 c7 / 256 = p8 c1 c2 c3 c4 c5 c6 c7 0 := by
  unfold p8
  omega
theorem p8_low (c0 c1 c2 c3 c4 c5 c6 c7 : Nat) (h0 : c0 < 128) : p8 c0 c1 c2 c3 c4 c5 c6 c7 % 128 = c0 := by
  unfold p8
  omega

theorem sum8 (c0 c1 c2 c3 c4 c5 c6 c7 : Nat) (h0 : c0 < 9) (h1 : c1 < 9) (h2 : c2 < 9) (h3 : c3 < 9) (h4 : c4 < 9) (h5 : c5 < 9) (h6 : c6 < 9) (h7 : c7 < 9) :
    ∃ x4 x5 x6 : Nat, p8 c0 c1 c2 c3 c4 c5 c6 c7 < 1152921504606846976 ∧ p8 c0 c1 c2 c3 c4 c5 c6 c7 + p8 c0 c1 c2 c3 c4 c5 c6 c7 / 256 = x4 ∧
      x4 < 2305843009213693952 ∧ x4 + x4 / 65536 = x5 ∧ x5 < 4611686018427387904 ∧ x5 + x5 / 4294967296 = x6 ∧ x6 < 9223372036854775808 ∧ x6 % 128 = c0 + (c1 + (c2 + (c3 + (c4 + (c5 + (c6 + c7)))))) := by
  have b0 := p8_lt 8 c0 c1 c2 c3 c4 c5 c6 c7 (by omega) (by omega) (by omega) (by omega) (by omega) (by omega) (by omega) (by omega)
  have q1 := p8_shift c0 c1 c2 c3 c4 c5 c6 c7 (by omega)
  have s1 := p8_add c0 c1 c2 c3 c4 c5 c6 c7 c1 c2 c3 c4 c5 c6 c7 0
  have b1 := p8_lt 16 (c0 + c1) (c1 + c2) (c2 + c3) (c3 + c4) (c4 + c5) (c5 + c6) (c6 + c7) (c7 + 0) (by omega) (by omega) (by omega) (by omega) (by omega) (by omega) (by omega) (by omega)
  have q2 := p8_shift (c0 + c1) (c1 + c2) (c2 + c3) (c3 + c4) (c4 + c5) (c5 + c6) (c6 + c7) (c7 + 0) (by omega)
  have q3 := p8_shift (c1 + c2) (c2 + c3) (c3 + c4) (c4 + c5) (c5 + c6) (c6 + c7) (c7 + 0) 0 (by omega)
  have s2 := p8_add (c0 + c1) (c1 + c2) (c2 + c3) (c3 + c4) (c4 + c5) (c5 + c6) (c6 + c7) (c7 + 0) (c2 + c3) (c3 + c4) (c4 + c5) (c5 + c6) (c6 + c7) (c7 + 0) 0 0
  have b2 := p8_lt 32 (c0 + c1 + (c2 + c3)) (c1 + c2 + (c3 + c4)) (c2 + c3 + (c4 + c5)) (c3 + c4 + (c5 + c6)) (c4 + c5 + (c6 + c7)) (c5 + c6 + (c7 + 0)) (c6 + c7 + 0) (c7 + 0 + 0) (by omega) (by omega) (by omega) (by omega) (by omega) (by omega) (by omega) (by omega)
  have q4 := p8_shift (c0 + c1 + (c2 + c3)) (c1 + c2 + (c3 + c4)) (c2 + c3 + (c4 + c5)) (c3 + c4 + (c5 + c6)) (c4 + c5 + (c6 + c7)) (c5 + c6 + (c7 + 0)) (c6 + c7 + 0) (c7 + 0 + 0) (by omega)
  have q5 := p8_shift (c1 + c2 + (c3 + c4)) (c2 + c3 + (c4 + c5)) (c3 + c4 + (c5 + c6)) (c4 + c5 + (c6 + c7)) (c5 + c6 + (c7 + 0)) (c6 + c7 + 0) (c7 + 0 + 0) 0 (by omega)
  have q6 := p8_shift (c2 + c3 + (c4 + c5)) (c3 + c4 + (c5 + c6)) (c4 + c5 + (c6 + c7)) (c5 + c6 + (c7 + 0)) (c6 + c7 + 0) (c7 + 0 + 0) 0 0 (by omega)
  have q7 := p8_shift (c3 + c4 + (c5 + c6)) (c4 + c5 + (c6 + c7)) (c5 + c6 + (c7 + 0)) (c6 + c7 + 0) (c7 + 0 + 0) 0 0 0 (by omega)
  have s3 := p8_add (c0 + c1 + (c2 + c3)) (c1 + c2 + (c3 + c4)) (c2 + c3 + (c4 + c5)) (c3 + c4 + (c5 + c6)) (c4 + c5 + (c6 + c7)) (c5 + c6 + (c7 + 0)) (c6 + c7 + 0) (c7 + 0 + 0) (c4 + c5 + (c6 + c7)) (c5 + c6 + (c7 + 0)) (c6 + c7 + 0) (c7 + 0 + 0) 0 0 0 0
  have lo := p8_low (c0 + c1 + (c2 + c3) + (c4 + c5 + (c6 + c7))) (c1 + c2 + (c3 + c4) + (c5 + c6 + (c7 + 0))) (c2 + c3 + (c4 + c5) + (c6 + c7 + 0)) (c3 + c4 + (c5 + c6) + (c7 + 0 + 0)) (c4 + c5 + (c6 + c7) + 0) (c5 + c6 + (c7 + 0) + 0) (c6 + c7 + 0 + 0) (c7 + 0 + 0 + 0) (by omega)
  rw [← q1] at s1
  rw [← s1] at q2 b1
  have h65 : ∀ x : Nat, x / 256 / 256 = x / 65536 := fun x => by rw [Nat.div_div_eq_div_mul]
  have h43 : ∀ x : Nat, x / 256 / 256 / 256 / 256 = x / 4294967296 := fun x => by rw [Nat.div_div_eq_div_mul, Nat.div_div_eq_div_mul, Nat.div_div_eq_div_mul]
  rw [← q2, h65] at q3
  rw [← s1, ← q3] at s2
  rw [← s2] at q4 b2
  rw [← q4] at q5
  rw [← q5] at q6
  rw [← q6, h43] at q7
  rw [← s2, ← q7] at s3
  rw [← s3] at lo
  refine ⟨_, _, _, by omega, rfl, by omega, rfl, by omega, rfl, ?_, ?_⟩
  · have := Nat.div_le_self (p8 c0 c1 c2 c3 c4 c5 c6 c7 + p8 c0 c1 c2 c3 c4 c5 c6 c7 / 256 + (p8 c0 c1 c2 c3 c4 c5 c6 c7 + p8 c0 c1 c2 c3 c4 c5 c6 c7 / 256) / 65536) 4294967296
    generalize (p8 c0 c1 c2 c3 c4 c5 c6 c7 + p8 c0 c1 c2 c3 c4 c5 c6 c7 / 256 + (p8 c0 c1 c2 c3 c4 c5 c6 c7 + p8 c0 c1 c2 c3 c4 c5 c6 c7 / 256) / 65536) / 4294967296 = u at *
    omega
  · rw [lo]
    omega

theorem cntL_zero (m : Nat) : cntL 0 m = 0 := rfl
theorem cnt_bytes (m : Nat) : ∃ c0 c1 c2 c3 c4 c5 c6 c7 : Nat, (c0 < 9 ∧ c1 < 9 ∧ c2 < 9 ∧ c3 < 9 ∧ c4 < 9 ∧ c5 < 9 ∧ c6 < 9 ∧ c7 < 9) ∧
    dig 8 m = p8 c0 c1 c2 c3 c4 c5 c6 c7 ∧ cnt m = c0 + (c1 + (c2 + (c3 + (c4 + (c5 + (c6 + c7)))))) := by
  have e : cnt m = cntL 64 m := cntT_L m 64
  rw [e]
  have a0 := cntL_cB 56 m
  have a1 := cntL_cB 48 (m / 256)
  have a2 := cntL_cB 40 (m / 256 / 256)
  have a3 := cntL_cB 32 (m / 256 / 256 / 256)
  have a4 := cntL_cB 24 (m / 256 / 256 / 256 / 256)
  have a5 := cntL_cB 16 (m / 256 / 256 / 256 / 256 / 256)
  have a6 := cntL_cB 8 (m / 256 / 256 / 256 / 256 / 256 / 256)
  have a7 := cntL_cB 0 (m / 256 / 256 / 256 / 256 / 256 / 256 / 256)
  rw [cntL_zero] at a7
  have b0 := dig_succ 7 m
  have b1 := dig_succ 6 (m / 256)
  have b2 := dig_succ 5 (m / 256 / 256)
  have b3 := dig_succ 4 (m / 256 / 256 / 256)
  have b4 := dig_succ 3 (m / 256 / 256 / 256 / 256)
  have b5 := dig_succ 2 (m / 256 / 256 / 256 / 256 / 256)
  have b6 := dig_succ 1 (m / 256 / 256 / 256 / 256 / 256 / 256)
  have b7 := dig_succ 0 (m / 256 / 256 / 256 / 256 / 256 / 256 / 256)
  rw [dig_zero] at b7
  refine ⟨cB m, cB (m / 256), cB (m / 256 / 256), cB (m / 256 / 256 / 256), cB (m / 256 / 256 / 256 / 256), cB (m / 256 / 256 / 256 / 256 / 256), cB (m / 256 / 256 / 256 / 256 / 256 / 256), cB (m / 256 / 256 / 256 / 256 / 256 / 256 / 256), ⟨cB_lt _, cB_lt _, cB_lt _, cB_lt _, cB_lt _, cB_lt _, cB_lt _, cB_lt _⟩, ?_, ?_⟩
  · rw [b0, b1, b2, b3, b4, b5, b6, b7]
    unfold p8
    rw [Nat.mul_zero, Nat.add_zero]
  · simp only [Nat.reduceAdd] at a0 a1 a2 a3 a4 a5 a6 a7
    rw [a0, a1, a2, a3, a4, a5, a6, a7]
    rfl

/-- All of it. -/
theorem ones_nat (m : Nat) (hm : m < 18446744073709551616) : ∃ x1 x2 x3 x4 x5 x6 : Nat,
    (m / 2 &&& 6148914691236517205) + (m &&& 6148914691236517205) = x1 ∧ (x1 / 4 &&& 3689348814741910323) + (x1 &&& 3689348814741910323) = x2 ∧
    (x2 / 16 + x2) &&& 1085102592571150095 = x3 ∧ x3 < 1152921504606846976 ∧ x3 + x3 / 256 = x4 ∧ x4 < 2305843009213693952 ∧ x4 + x4 / 65536 = x5 ∧ x5 < 4611686018427387904 ∧
    x5 + x5 / 4294967296 = x6 ∧ x6 < 9223372036854775808 ∧ x6 % 128 = cnt m := by
  have hf := (fields 8 m (by simpa using hm)).2
  have k1 : kk 85 8 = 6148914691236517205 := by decide
  have k2 : kk 51 8 = 3689348814741910323 := by decide
  have k3 : kk 15 8 = 1085102592571150095 := by decide
  rw [k1, k2, k3] at hf
  obtain ⟨c0, c1, c2, c3, c4, c5, c6, c7, ⟨h0, h1, h2, h3, h4, h5, h6, h7⟩, hd, hc⟩ := cnt_bytes m
  obtain ⟨x4, x5, x6, g1, g2, g3, g4, g5, g6, g7, g8⟩ := sum8 c0 c1 c2 c3 c4 c5 c6 c7 h0 h1 h2 h3 h4 h5 h6 h7
  rw [← hd] at g1 g2
  rw [← hc] at g8
  exact ⟨_, _, dig 8 m, x4, x5, x6, rfl, rfl, hf, g1, g2, g3, g4, g5, g6, g7, g8⟩
end Go.Proofs.Ytpjmdnhoiobedaa
