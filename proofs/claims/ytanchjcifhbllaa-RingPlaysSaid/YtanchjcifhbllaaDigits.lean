/-
  Numbers alone: a quotient of two digits to the base 2^32, by estimates (the way of math/bits.Div64).
-/
import Derived.Test.YtanchjcifhbllaaDiv
set_option linter.unusedVariables false
namespace Go.Proofs.Ytanchjcifhbllaa
open Go.RowKit

/-- A digit: the divisor's halves, the number above, the next digit. -/
structure Dig (Y n1 n0 u d : Nat) : Prop where
  hY : Y = n1 * 4294967296 + n0
  a1 : 2147483648 ≤ n1
  a2 : n1 < 4294967296
  a3 : n0 < 4294967296
  a4 : d < 4294967296
  a5 : u < Y

theorem Dig.lt {Y n1 n0 u d : Nat} (k : Dig Y n1 n0 u d) : (u * 4294967296 + d) / Y < 4294967296 := by
  obtain ⟨h1, h2, h3, h4, h5, h6⟩ := k
  rw [Nat.div_lt_iff_lt_mul (by omega)]
  omega

theorem Dig.start {Y n1 n0 u d : Nat} (k : Dig Y n1 n0 u d) : (u * 4294967296 + d) / Y ≤ u / n1 ∧ u / n1 ≤ 4294967297 := by
  obtain ⟨h1, h2, h3, h4, h5, h6⟩ := k
  constructor
  · rw [Nat.le_div_iff_mul_le (by omega)]
    have e := Nat.div_mul_le_self (u * 4294967296 + d) Y
    generalize (u * 4294967296 + d) / Y = q at *
    have e2 : q * Y = q * n1 * 4294967296 + q * n0 := by rw [h1, Nat.mul_add, Nat.mul_assoc]
    omega
  · have : u / n1 < 4294967298 := by
      rw [Nat.div_lt_iff_lt_mul (by omega)]
      omega
    omega

theorem Dig.cond {Y n1 n0 u d q r : Nat} (k : Dig Y n1 n0 u d) (h : q * n1 + r = u) : (u * 4294967296 + d) / Y < q ↔ 4294967296 * r + d < q * n0 := by
  obtain ⟨h1, h2, h3, h4, h5, h6⟩ := k
  rw [Nat.div_lt_iff_lt_mul (by omega)]
  have e2 : q * Y = q * n1 * 4294967296 + q * n0 := by rw [h1, Nat.mul_add, Nat.mul_assoc]
  omega

theorem Dig.less {Y n1 n0 u d q r : Nat} (k : Dig Y n1 n0 u d) (h : q * n1 + r = u) (hq : (u * 4294967296 + d) / Y < q) : (q - 1) * n1 + (r + n1) = u := by
  obtain ⟨c, rfl⟩ : ∃ c, q = c + 1 := ⟨q - 1, by have := Nat.lt_of_le_of_lt (Nat.zero_le _) hq; omega⟩
  rw [Nat.add_mul, Nat.one_mul] at h
  simp only [Nat.add_sub_cancel]
  omega

theorem Dig.broke {Y n1 n0 u d q r : Nat} (k : Dig Y n1 n0 u d) (h : q * n1 + r = u) (hq : (u * 4294967296 + d) / Y < q) (hb : q ≤ 4294967297) (hr : 4294967296 ≤ r + n1) : q - 1 = (u * 4294967296 + d) / Y := by
  have h2 := k.less h hq
  have h3 := k.cond h2
  have h4 : (q - 1) * n0 ≤ 4294967296 * 4294967295 := Nat.mul_le_mul (by omega) (by have := k.a3; omega)
  have h5 : ¬ (4294967296 * (r + n1) + d < (q - 1) * n0) := by omega
  have h6 : ¬ ((u * 4294967296 + d) / Y < q - 1) := fun x => h5 (h3.1 x)
  omega

/-- The divisor made great, and the number with it. -/
structure Norm (h l y s Y n1 n0 u v d1 d0 : Nat) : Prop where
  hY : Y = y * 2 ^ s
  halves : Y = n1 * 4294967296 + n0
  a1 : 2147483648 ≤ n1
  a2 : n1 < 4294967296
  a3 : n0 < 4294967296
  hv : v = d1 * 4294967296 + d0
  a4 : d1 < 4294967296
  a5 : d0 < 4294967296
  a6 : u < Y
  num : u * 18446744073709551616 + v = (h * 18446744073709551616 + l) * 2 ^ s
  e1 : IntKind.u64.wrap ((y : Int) * 2 ^ s) = (Y : Int)
  e2 : (Y : Int) / 4294967296 = (n1 : Int)
  e3 : bits .and .u64 (Y : Int) 4294967295 = (n0 : Int)
  e4 : bits .or .u64 (IntKind.u64.wrap ((h : Int) * 2 ^ s)) ((l : Int) / 2 ^ (64 - s)) = (u : Int)
  e5 : IntKind.u64.wrap ((l : Int) * 2 ^ s) = (v : Int)
  e6 : (v : Int) / 4294967296 = (d1 : Int)
  e7 : bits .and .u64 (v : Int) 4294967295 = (d0 : Int)

theorem cast_mul_pow (y s : Nat) : (y : Int) * 2 ^ s = ((y * 2 ^ s : Nat) : Int) := by simp

theorem norm_all (h l y s : Nat) (b1 : l < 18446744073709551616) (b2 : y < 18446744073709551616) (b3 : h < y) (hs : s ≤ 63) (y1 : 9223372036854775808 ≤ y * 2 ^ s) (y2 : y * 2 ^ s < 18446744073709551616) :
    ∃ Y n1 n0 u v d1 d0, Norm h l y s Y n1 n0 u v d1 d0 := by
  have p : 0 < 2 ^ s := Nat.two_pow_pos _
  have p64 : 2 ^ (64 - s) * 2 ^ s = 18446744073709551616 := by rw [← Nat.pow_add, show 64 - s + s = 64 by omega]
  have hh : h * 2 ^ s < 18446744073709551616 := Nat.lt_of_le_of_lt (Nat.mul_le_mul_right _ (Nat.le_of_lt b3)) y2
  have hl1 : l / 2 ^ (64 - s) < 2 ^ s := by
    rw [Nat.div_lt_iff_lt_mul (Nat.two_pow_pos _), Nat.mul_comm, p64]
    exact b1
  have hl2 : l * 2 ^ s / 18446744073709551616 = l / 2 ^ (64 - s) := by
    rw [← p64, Nat.mul_div_mul_right _ _ p]
  have hnum : (h * 2 ^ s + l / 2 ^ (64 - s)) * 18446744073709551616 + l * 2 ^ s % 18446744073709551616 = (h * 18446744073709551616 + l) * 2 ^ s := by
    have e := Nat.div_add_mod (l * 2 ^ s) 18446744073709551616
    rw [hl2] at e
    rw [Nat.add_mul, Nat.add_mul, Nat.mul_right_comm h]
    omega
  have hu : h * 2 ^ s + l / 2 ^ (64 - s) < y * 2 ^ s := by
    have e1 : (h * 18446744073709551616 + l) * 2 ^ s < y * 18446744073709551616 * 2 ^ s := Nat.mul_lt_mul_of_pos_right (by omega) p
    rw [Nat.mul_right_comm y] at e1
    omega
  refine ⟨y * 2 ^ s, y * 2 ^ s / 4294967296, y * 2 ^ s % 4294967296, h * 2 ^ s + l / 2 ^ (64 - s), l * 2 ^ s % 18446744073709551616, l * 2 ^ s % 18446744073709551616 / 4294967296, l * 2 ^ s % 18446744073709551616 % 4294967296,
    rfl, by omega, by omega, by omega, by omega, by omega, by omega, by omega, hu, hnum, ?_, by omega, ?_, ?_, ?_, by omega, ?_⟩
  · rw [cast_mul_pow]; exact Mul64.wrapN _ y2
  · exact Mul64.maskN _ y2
  · rw [cast_mul_pow, Mul64.wrapN _ hh, show (l : Int) / 2 ^ (64 - s) = ((l / 2 ^ (64 - s) : Nat) : Int) by simp, bits_or_u64_nat _ _ hh (by omega), Nat.mul_comm h, ← Nat.two_pow_add_eq_or_of_lt hl1]
  · rw [cast_mul_pow]; exact Mul64.wrapM _
  · exact Mul64.maskN _ (Nat.mod_lt _ (by decide))

theorem Norm.dig1 {h l y s Y n1 n0 u v d1 d0 : Nat} (k : Norm h l y s Y n1 n0 u v d1 d0) : Dig Y n1 n0 u d1 := ⟨k.halves, k.a1, k.a2, k.a3, k.a4, k.a6⟩
theorem Norm.dig0 {h l y s Y n1 n0 u v d1 d0 : Nat} (k : Norm h l y s Y n1 n0 u v d1 d0) : Dig Y n1 n0 ((u * 4294967296 + d1) % Y) d0 :=
  ⟨k.halves, k.a1, k.a2, k.a3, k.a5, Nat.mod_lt _ (by have := k.halves; have := k.a1; omega)⟩

/-- The rest behind a digit, as the program reckons it. -/
theorem rest_wraps (u d Y : Nat) (hY0 : 0 < Y) (hY : Y < 18446744073709551616) :
    IntKind.u64.wrap (IntKind.u64.wrap (IntKind.u64.wrap ((u : Int) * 4294967296) + (d : Int)) - IntKind.u64.wrap ((((u * 4294967296 + d) / Y : Nat) : Int) * (Y : Int))) = (((u * 4294967296 + d) % Y : Nat) : Int) := by
  have e := Nat.div_add_mod (u * 4294967296 + d) Y
  have e2 := Nat.mod_lt (u * 4294967296 + d) hY0
  have e3 : (((u * 4294967296 + d) / Y : Nat) : Int) * (Y : Int) = ((Y * ((u * 4294967296 + d) / Y) : Nat) : Int) := by rw [Int.mul_comm, Int.natCast_mul]
  rw [e3]
  generalize Y * ((u * 4294967296 + d) / Y) = A at *
  generalize (u * 4294967296 + d) % Y = R at *
  simp only [IntKind.wrap_u64]
  omega

theorem done_num {N u d1 d0 Y y p q1 R q0 R0 : Nat} (hp : 0 < p) (hY0 : 0 < Y) (e1 : Y * q1 + R = u * 4294967296 + d1) (e2 : Y * q0 + R0 = R * 4294967296 + d0) (e3 : R0 < Y)
    (hn : u * 18446744073709551616 + (d1 * 4294967296 + d0) = N * p) (hY : Y = y * p) : q1 * 4294967296 + q0 = N / y ∧ R0 / p = N % y := by
  have e4 : Y * (q1 * 4294967296 + q0) + R0 = N * p := by
    have a1 : Y * (q1 * 4294967296 + q0) = Y * q1 * 4294967296 + Y * q0 := by rw [Nat.mul_add, Nat.mul_assoc]
    rw [a1, ← hn]
    generalize Y * q1 = A at e1 ⊢
    generalize Y * q0 = B at e2 ⊢
    clear hn e3 hY a1
    omega
  have e5 := (Nat.div_mod_unique (a := N * p) (b := Y) (c := R0) (d := q1 * 4294967296 + q0) hY0).2 ⟨by omega, e3⟩
  rw [hY, Nat.mul_div_mul_right _ _ hp, Nat.mul_mod_mul_right] at e5
  refine ⟨e5.1.symm, ?_⟩
  rw [← e5.2, Nat.mul_div_cancel _ hp]

theorem Norm.done {h l y s Y n1 n0 u v d1 d0 : Nat} (k : Norm h l y s Y n1 n0 u v d1 d0) :
    (u * 4294967296 + d1) / Y * 4294967296 + ((u * 4294967296 + d1) % Y * 4294967296 + d0) / Y = (h * 18446744073709551616 + l) / y ∧
    ((u * 4294967296 + d1) % Y * 4294967296 + d0) % Y / 2 ^ s = (h * 18446744073709551616 + l) % y := by
  have hY0 : 0 < Y := by have := k.halves; have := k.a1; omega
  have hn := k.num
  rw [k.hv] at hn
  exact done_num (Nat.two_pow_pos _) hY0 (Nat.div_add_mod _ _) (Nat.div_add_mod _ _) (Nat.mod_lt _ hY0) hn k.hY
/-- All numbers of the way, named. -/
structure Pack (h l y s Y n1 n0 u v d1 d0 qa ra D1 R1 qb rb D0 R0 : Nat) : Prop where
  N : Norm h l y s Y n1 n0 u v d1 d0
  hqa : qa = u / n1
  hra : ra = u % n1
  hD1 : D1 = (u * 4294967296 + d1) / Y
  hR1 : R1 = (u * 4294967296 + d1) % Y
  hqb : qb = R1 / n1
  hrb : rb = R1 % n1
  hD0 : D0 = (R1 * 4294967296 + d0) / Y
  hR0 : R0 = (R1 * 4294967296 + d0) % Y

theorem pack_all (h l y s : Nat) (b1 : l < 18446744073709551616) (b2 : y < 18446744073709551616) (b3 : h < y) (hs : s ≤ 63) (y1 : 9223372036854775808 ≤ y * 2 ^ s) (y2 : y * 2 ^ s < 18446744073709551616) :
    ∃ Y n1 n0 u v d1 d0 qa ra D1 R1 qb rb D0 R0, Pack h l y s Y n1 n0 u v d1 d0 qa ra D1 R1 qb rb D0 R0 ∧ Y < 18446744073709551616 := by
  obtain ⟨Y, n1, n0, u, v, d1, d0, hN⟩ := norm_all h l y s b1 b2 b3 hs y1 y2
  exact ⟨Y, n1, n0, u, v, d1, d0, _, _, _, _, _, _, _, _, ⟨hN, rfl, rfl, rfl, rfl, rfl, rfl, rfl, rfl⟩, by rw [hN.hY]; exact y2⟩

theorem div_wrap {u n q : Nat} (h : q = u / n) (hu : u < 18446744073709551616) : IntKind.u64.wrap ((u : Int) / (n : Int)) = (q : Int) := by
  have e : (u : Int) / (n : Int) = ((u / n : Nat) : Int) := by simp
  rw [e, h]
  exact Mul64.wrapN _ (Nat.lt_of_le_of_lt (Nat.div_le_self _ _) hu)

theorem rem_wrap {u n q r : Nat} (h : q = u / n) (hr : r = u % n) (hu : u < 18446744073709551616) : IntKind.u64.wrap ((u : Int) - IntKind.u64.wrap ((q : Int) * (n : Int))) = (r : Int) := by
  have e := Nat.div_add_mod' u n
  rw [← h, ← hr] at e
  have e2 : (q : Int) * (n : Int) = ((q * n : Nat) : Int) := by simp
  rw [e2]
  generalize q * n = a at *
  simp only [IntKind.wrap_u64]
  omega

/-- A digit's loop. -/
def DigRel (n1 u D : Nat) (w : World) (g : Nat) (x y : Value) (wr : World) : Prop :=
  ∃ q r : Nat, x = .int .u64 q ∧ y = .int .u64 r ∧ w = wr ∧ q * n1 + r = u ∧ D ≤ q ∧ q ≤ 4294967297 ∧ r < 4294967296 ∧ g = q - D

theorem DigRel.start {Y n1 n0 u d D qa ra : Nat} (k : Dig Y n1 n0 u d) (hD : D = (u * 4294967296 + d) / Y) (h1 : qa = u / n1) (h2 : ra = u % n1) (w : World) : DigRel n1 u D w (qa - D) (.int .u64 qa) (.int .u64 ra) w := by
  have h := Nat.mod_lt u (show 0 < n1 by have := k.a1; omega)
  have h3 := k.a2
  have h4 := k.start
  subst h1 h2 hD
  exact ⟨_, _, rfl, rfl, rfl, Nat.div_add_mod' u n1, h4.1, h4.2, by omega, rfl⟩

/-- The ways of a round: the estimate is too great and goes on; it is too great and is then right; it is right. -/
theorem DigRel.ways {Y n1 n0 u d D q r : Nat} (k : Dig Y n1 n0 u d) (hD : D = (u * 4294967296 + d) / Y) (h : q * n1 + r = u) (hge : D ≤ q) (hle : q ≤ 4294967297) :
    (((decide ((4294967296 : Int) ≤ (q : Int)) = true ∨ (decide ((4294967296 : Int) ≤ (q : Int)) = false ∧ decide ((4294967296 : Int) * (r : Int) + (d : Int) < (q : Int) * (n0 : Int)) = true)) ∧ 1 ≤ q ∧
      ((decide ((4294967296 : Int) ≤ (r : Int) + (n1 : Int)) = false ∧ r + n1 < 4294967296 ∧ (q - 1) * n1 + (r + n1) = u ∧ D ≤ q - 1 ∧ D < q) ∨ (decide ((4294967296 : Int) ≤ (r : Int) + (n1 : Int)) = true ∧ (q : Int) - 1 = (D : Int)))) ∨
      (decide ((4294967296 : Int) ≤ (q : Int)) = false ∧ decide ((4294967296 : Int) * (r : Int) + (d : Int) < (q : Int) * (n0 : Int)) = false ∧ q = D)) := by
  have h1 := k.cond h
  have h2 := k.lt
  have e : (q : Int) * (n0 : Int) = ((q * n0 : Nat) : Int) := by simp
  rw [← hD] at h1 h2
  simp only [decide_eq_true_eq, decide_eq_false_iff_not]
  by_cases hc : D < q
  · have h3 := h1.1 hc
    refine .inl ⟨?_, by omega, ?_⟩
    · rw [e]
      by_cases hq : 4294967296 ≤ q
      · exact .inl (by omega)
      · exact .inr ⟨by omega, by omega⟩
    · by_cases hr : 4294967296 ≤ r + n1
      · refine .inr ⟨by omega, ?_⟩
        have := k.broke h (hD ▸ hc) hle hr
        omega
      · exact .inl ⟨by omega, by omega, k.less h (hD ▸ hc), by omega, hc⟩
  · have h3 : ¬ (4294967296 * r + d < q * n0) := fun x => hc (h1.2 x)
    rw [e]
    exact .inr ⟨by omega, by omega, by omega⟩

theorem Pack.Ypos {h l y s Y n1 n0 u v d1 d0 qa ra D1 R1 qb rb D0 R0 : Nat} (k : Pack h l y s Y n1 n0 u v d1 d0 qa ra D1 R1 qb rb D0 R0) : 0 < Y := by have := k.N.halves; have := k.N.a1; omega
theorem Pack.dig0 {h l y s Y n1 n0 u v d1 d0 qa ra D1 R1 qb rb D0 R0 : Nat} (k : Pack h l y s Y n1 n0 u v d1 d0 qa ra D1 R1 qb rb D0 R0) : Dig Y n1 n0 R1 d0 := by rw [k.hR1]; exact k.N.dig0
theorem Pack.lt1 {h l y s Y n1 n0 u v d1 d0 qa ra D1 R1 qb rb D0 R0 : Nat} (k : Pack h l y s Y n1 n0 u v d1 d0 qa ra D1 R1 qb rb D0 R0) : D1 < 4294967296 := by rw [k.hD1]; exact k.N.dig1.lt
theorem Pack.lt0 {h l y s Y n1 n0 u v d1 d0 qa ra D1 R1 qb rb D0 R0 : Nat} (k : Pack h l y s Y n1 n0 u v d1 d0 qa ra D1 R1 qb rb D0 R0) : D0 < 4294967296 := by rw [k.hD0]; exact k.dig0.lt
theorem Pack.ltR {h l y s Y n1 n0 u v d1 d0 qa ra D1 R1 qb rb D0 R0 : Nat} (k : Pack h l y s Y n1 n0 u v d1 d0 qa ra D1 R1 qb rb D0 R0) (hY : Y < 18446744073709551616) : R1 < 18446744073709551616 := Nat.lt_trans k.dig0.a5 hY
theorem Pack.r1 {h l y s Y n1 n0 u v d1 d0 qa ra D1 R1 qb rb D0 R0 : Nat} (k : Pack h l y s Y n1 n0 u v d1 d0 qa ra D1 R1 qb rb D0 R0) (hY : Y < 18446744073709551616) :
    IntKind.u64.wrap (IntKind.u64.wrap (IntKind.u64.wrap ((u : Int) * 4294967296) + (d1 : Int)) - IntKind.u64.wrap ((D1 : Int) * (Y : Int))) = (R1 : Int) := by rw [k.hD1, k.hR1]; exact rest_wraps u d1 Y k.Ypos hY
theorem Pack.r0 {h l y s Y n1 n0 u v d1 d0 qa ra D1 R1 qb rb D0 R0 : Nat} (k : Pack h l y s Y n1 n0 u v d1 d0 qa ra D1 R1 qb rb D0 R0) (hY : Y < 18446744073709551616) :
    IntKind.u64.wrap (IntKind.u64.wrap (IntKind.u64.wrap ((R1 : Int) * 4294967296) + (d0 : Int)) - IntKind.u64.wrap ((D0 : Int) * (Y : Int))) = (R0 : Int) := by rw [k.hD0, k.hR0]; exact rest_wraps R1 d0 Y k.Ypos hY
theorem knuth_end {h l y s Y n1 n0 u v d1 d0 qa ra D1 R1 qb rb D0 R0 Q R : Nat} (k : Pack h l y s Y n1 n0 u v d1 d0 qa ra D1 R1 qb rb D0 R0) (hQ : Q = (h * 18446744073709551616 + l) / y) (hR : R = (h * 18446744073709551616 + l) % y) :
    Ending.returned (.tuple #[.int .u64 ((D1 : Int) * 4294967296 + (D0 : Int)), .int .u64 ((R0 : Int) / 2 ^ s)]) = .returned (.tuple #[.int .u64 Q, .int .u64 R]) := by
  have e := k.N.done
  rw [← k.hD1, ← k.hR1, ← k.hD0, ← k.hR0, ← hQ, ← hR] at e
  rw [← e.1, ← e.2]
  simp

theorem est_mul {q n0 : Nat} (hq : q ≤ 4294967297) (h : n0 < 4294967296) : q * n0 ≤ 18446744073709551615 :=
  Nat.le_trans (Nat.mul_le_mul hq (Nat.le_of_lt_succ h)) (by decide)
end Go.Proofs.Ytanchjcifhbllaa
