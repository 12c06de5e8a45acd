/-
  A member's pass, which of two passes is less, a pass times a weight.
  Conditions: the numbers are words.
-/
import Derived.Shelf.Small.Bits
import Derived.Shelf.Strconv.Itoa0
import Derived.Shelf.Bits.Mul64
import Derived.Ground.SlgcProg
import Derived.Shelf.SlicesG.Cmp
import Derived.Test.YtpfpojehcjmfnaaGreatProg
import Derived.Test.YtpfpojehcjmfnaaGreatRows
import Derived.WalkKit
import Derived.WalkLawsBesides
import Derived.Below
import Derived.Lib.Hide
import Derived.Handy
import Derived.ProofKit
import Derived.OpenShut
import Derived.Deep.LoopGhost
import Derived.Test.YtpfpojehcjmfnaaGreatT01
import Derived.BigQuiet
import Derived.Test.YtpfpojehcjmfnaaGreatT19
import Derived.Shelf.SlSortCmp.QuietGrown

/-
  DERIVED: THE SHELF's CONTRACTS AT THIS DUMP, IN PLAIN WORDS (tools/lay-plain.mjs out of 'TryzShelf.lean', which tools/lay-shelf.mjs wrote): THE SAME DECLARATIONS UNDER THE SAME NAMES: 'import', 'namespace', 'open', 'def', 'theorem' AND NOTHING ELSE: no command of the shelf's: FOR A HAND-IN. Each laying: the table of numbers ('.._ren') and one theorem, a field a fact of the dump's own or the kernel's comparison; each contract: ONE APPLICATION.
-/
namespace Go.Proofs
open Go.Shelf
def Tryz.lays134_ren : Go.Shelf.Ren := ⟨fun | 134 => 183 | 129 => 157 | n => n, fun | 53 => 82 | 3 => 3 | 4 => 4 | 46 => 154 | 5 => 5 | 9 => 9 | n => n, fun | n => n⟩
theorem Tryz.lays134 : Go.Proofs.Lays.n134 Tryz.prog Tryz.lays134_ren := {
  mixed := by kernel_rfl
  f129 := Tryz.func157.trans (congrArg some (by kernel_rfl))
  f134 := Tryz.func183.trans (congrArg some (by kernel_rfl))
  t3 := Tryz.underlying3
  a3 := Tryz.isAgg3
  z3 := Tryz.sizeOf3
  v3 := Tryz.zeroValue3
  t4 := Tryz.underlying4
  a4 := Tryz.isAgg4
  z4 := Tryz.sizeOf4
  v4 := Tryz.zeroValue4
  t5 := Tryz.underlying5
  a5 := Tryz.isAgg5
  z5 := Tryz.sizeOf5
  v5 := Tryz.zeroValue5
  t9 := Tryz.underlying9
  a9 := Tryz.isAgg9
  z9 := Tryz.sizeOf9
  v9 := Tryz.zeroValue9
  t46 := Tryz.underlying154
  a46 := Tryz.isAgg154
  z46 := Tryz.sizeOf154
  v46 := Tryz.zeroValue154
  t53 := Tryz.underlying82
  a53 := Tryz.isAgg82
  z53 := Tryz.sizeOf82
  v53 := Tryz.zeroValue82 }
/-- bits.LeadingZeros64: "LeadingZeros64 returns the number of leading zero bits in x; the result is 64 for x == 0.": IT RETURNS '64 - Lib.bitLen x'; the world is as it was. ITS CALLEE bits.Len64 IS MET BY ITS OWN CONTRACT OFF THE SHELF (lay that first): entered in place it sends the kernel out of memory. (LAID: no walk: one application.) -/
theorem Tryz.bits_LeadingZeros64 (x : Int) (w : World) (h0 : 0 ≤ x) (h1 : x ≤ 18446744073709551615) :
    Calls Tryz.prog 183 #[.int .u64 x] w fun e w' => e = .returned (.int .i64 (64 - (Lib.bitLen x.toNat : Int))) ∧ w' = w := Any.bits_LeadingZeros64 Tryz.lays134 x w h0 h1
def Tryz.lays264_ren : Go.Shelf.Ren := ⟨fun | 264 => 160 | n => n, fun | 53 => 82 | 46 => 154 | n => n, fun | n => n⟩
theorem Tryz.lays264 : Go.Proofs.Lays.n264 Tryz.prog Tryz.lays264_ren := {
  mixed := by kernel_rfl
  f264 := Tryz.func160.trans (congrArg some (by kernel_rfl))
  t46 := Tryz.underlying154
  a46 := Tryz.isAgg154
  z46 := Tryz.sizeOf154
  v46 := Tryz.zeroValue154
  t53 := Tryz.underlying82
  a53 := Tryz.isAgg82
  z53 := Tryz.sizeOf82
  v53 := Tryz.zeroValue82 }
open Go.RowKit Go.Lib in
theorem Tryz.bits_Mul64 (x y : Nat) (hx : x < 18446744073709551616) (hy : y < 18446744073709551616) (w : World) :
    Calls Tryz.prog 160 #[.int .u64 x, .int .u64 y] w fun e w' => e = .returned (.tuple #[.int .u64 ((x * y / 18446744073709551616 : Nat) : Int), .int .u64 ((x * y % 18446744073709551616 : Nat) : Int)]) ∧ w' = w := Any.bits_Mul64 Tryz.lays264 x y hx hy w
end Go.Proofs

/-
  Numbers of 128 bits: Sum and Twice, as numbers.
  Conditions: each half is below 2^64.
-/
set_option linter.unusedVariables false
namespace Go.Proofs.YtpfpojehcjmfnaaGreat
open Go.RowKit

end Go.Proofs.YtpfpojehcjmfnaaGreat

/-
  Times: the product of two words, bit by bit, is the product.
  Conditions: both are below 2^64.
-/
set_option linter.unusedVariables false
namespace Go.Proofs.YtpfpojehcjmfnaaGreat
open Go.RowKit

theorem prod_lt (a b k : Nat) (b1 : a < 18446744073709551616) (b2 : b < 18446744073709551616) : a * (b / 2 ^ k) < 340282366920938463463374607431768211456 := by
  have h1 : a * (b / 2 ^ k) ≤ 18446744073709551615 * 18446744073709551615 := Nat.mul_le_mul (by omega) (Nat.le_trans (Nat.div_le_self _ _) (by omega))
  omega

def hiOf (n : Nat) : Nat := n / 18446744073709551616
def loOf (n : Nat) : Nat := n % 18446744073709551616
theorem hi_lt {n : Nat} (h : n < 340282366920938463463374607431768211456) : hiOf n < 18446744073709551616 := by unfold hiOf; omega
theorem lo_lt (n : Nat) : loOf n < 18446744073709551616 := Nat.mod_lt _ (by decide)
theorem mul_lt128 {a b : Nat} (b1 : a < 18446744073709551616) (b2 : b < 18446744073709551616) : a * b < 340282366920938463463374607431768211456 := by
  have := prod_lt a b 0 b1 b2
  simpa using this

theorem mul64_num (a b : Nat) (b1 : a < 18446744073709551616) (b2 : b < 18446744073709551616) (w : World) :
    Calls Tryz.prog 160 #[.int .u64 a, .int .u64 b] w fun e w' => e = .returned (.tuple #[.int .u64 (hiOf (a * b)), .int .u64 (loOf (a * b))]) ∧ w = w' := (Tryz.bits_Mul64 a b b1 b2 w).mono fun _ _ h => ⟨h.1, h.2.symm⟩
end Go.Proofs.YtpfpojehcjmfnaaGreat

/-
  The reference's long division, bit by bit, is the division.
  Conditions: each half is below 2^64, the divisor is a word and not 0.
-/
set_option linter.unusedVariables false
namespace Go.Proofs.YtpfpojehcjmfnaaGreat
open Go.RowKit

end Go.Proofs.YtpfpojehcjmfnaaGreat

/-
  Numbers alone: a quotient of two digits to the base 2^32, by estimates (the way of math/bits.Div64).
-/
set_option linter.unusedVariables false
namespace Go.Proofs.YtpfpojehcjmfnaaGreat
open Go.RowKit

/-- A digit: the divisor's halves, the number above, the next digit. -/
structure Dig (Y n1 n0 u d : Nat) : Prop where
  hY : Y = n1 * 4294967296 + n0
  a1 : 2147483648 ≤ n1
  a2 : n1 < 4294967296
  a3 : n0 < 4294967296
  a4 : d < 4294967296
  a5 : u < Y

theorem Dig.lt {Y n1 n0 u d : Nat} (k : Dig Y n1 n0 u d) : (u * 4294967296 + d) / Y < 4294967296 := by
  obtain ⟨h1, h2, h3, h4, h5, h6⟩ := k
  rw [Nat.div_lt_iff_lt_mul (by omega)]
  omega

theorem Dig.start {Y n1 n0 u d : Nat} (k : Dig Y n1 n0 u d) : (u * 4294967296 + d) / Y ≤ u / n1 ∧ u / n1 ≤ 4294967297 := by
  obtain ⟨h1, h2, h3, h4, h5, h6⟩ := k
  constructor
  · rw [Nat.le_div_iff_mul_le (by omega)]
    have e := Nat.div_mul_le_self (u * 4294967296 + d) Y
    generalize (u * 4294967296 + d) / Y = q at *
    have e2 : q * Y = q * n1 * 4294967296 + q * n0 := by rw [h1, Nat.mul_add, Nat.mul_assoc]
    omega
  · have : u / n1 < 4294967298 := by
      rw [Nat.div_lt_iff_lt_mul (by omega)]
      omega
    omega

theorem Dig.cond {Y n1 n0 u d q r : Nat} (k : Dig Y n1 n0 u d) (h : q * n1 + r = u) : (u * 4294967296 + d) / Y < q ↔ 4294967296 * r + d < q * n0 := by
  obtain ⟨h1, h2, h3, h4, h5, h6⟩ := k
  rw [Nat.div_lt_iff_lt_mul (by omega)]
  have e2 : q * Y = q * n1 * 4294967296 + q * n0 := by rw [h1, Nat.mul_add, Nat.mul_assoc]
  omega

theorem Dig.less {Y n1 n0 u d q r : Nat} (k : Dig Y n1 n0 u d) (h : q * n1 + r = u) (hq : (u * 4294967296 + d) / Y < q) : (q - 1) * n1 + (r + n1) = u := by
  obtain ⟨c, rfl⟩ : ∃ c, q = c + 1 := ⟨q - 1, by have := Nat.lt_of_le_of_lt (Nat.zero_le _) hq; omega⟩
  rw [Nat.add_mul, Nat.one_mul] at h
  simp only [Nat.add_sub_cancel]
  omega

theorem Dig.broke {Y n1 n0 u d q r : Nat} (k : Dig Y n1 n0 u d) (h : q * n1 + r = u) (hq : (u * 4294967296 + d) / Y < q) (hb : q ≤ 4294967297) (hr : 4294967296 ≤ r + n1) : q - 1 = (u * 4294967296 + d) / Y := by
  have h2 := k.less h hq
  have h3 := k.cond h2
  have h4 : (q - 1) * n0 ≤ 4294967296 * 4294967295 := Nat.mul_le_mul (by omega) (by have := k.a3; omega)
  have h5 : ¬ (4294967296 * (r + n1) + d < (q - 1) * n0) := by omega
  have h6 : ¬ ((u * 4294967296 + d) / Y < q - 1) := fun x => h5 (h3.1 x)
  omega

/-- The divisor made great, and the number with it. -/
structure Norm (h l y s Y n1 n0 u v d1 d0 : Nat) : Prop where
  hY : Y = y * 2 ^ s
  halves : Y = n1 * 4294967296 + n0
  a1 : 2147483648 ≤ n1
  a2 : n1 < 4294967296
  a3 : n0 < 4294967296
  hv : v = d1 * 4294967296 + d0
  a4 : d1 < 4294967296
  a5 : d0 < 4294967296
  a6 : u < Y
  num : u * 18446744073709551616 + v = (h * 18446744073709551616 + l) * 2 ^ s
  e1 : IntKind.u64.wrap ((y : Int) * 2 ^ s) = (Y : Int)
  e2 : (Y : Int) / 4294967296 = (n1 : Int)
  e3 : bits .and .u64 (Y : Int) 4294967295 = (n0 : Int)
  e4 : bits .or .u64 (IntKind.u64.wrap ((h : Int) * 2 ^ s)) ((l : Int) / 2 ^ (64 - s)) = (u : Int)
  e5 : IntKind.u64.wrap ((l : Int) * 2 ^ s) = (v : Int)
  e6 : (v : Int) / 4294967296 = (d1 : Int)
  e7 : bits .and .u64 (v : Int) 4294967295 = (d0 : Int)

theorem cast_mul_pow (y s : Nat) : (y : Int) * 2 ^ s = ((y * 2 ^ s : Nat) : Int) := by simp

theorem norm_all (h l y s : Nat) (b1 : l < 18446744073709551616) (b2 : y < 18446744073709551616) (b3 : h < y) (hs : s ≤ 63) (y1 : 9223372036854775808 ≤ y * 2 ^ s) (y2 : y * 2 ^ s < 18446744073709551616) :
    ∃ Y n1 n0 u v d1 d0, Norm h l y s Y n1 n0 u v d1 d0 := by
  have p : 0 < 2 ^ s := Nat.two_pow_pos _
  have p64 : 2 ^ (64 - s) * 2 ^ s = 18446744073709551616 := by rw [← Nat.pow_add, show 64 - s + s = 64 by omega]
  have hh : h * 2 ^ s < 18446744073709551616 := Nat.lt_of_le_of_lt (Nat.mul_le_mul_right _ (Nat.le_of_lt b3)) y2
  have hl1 : l / 2 ^ (64 - s) < 2 ^ s := by
    rw [Nat.div_lt_iff_lt_mul (Nat.two_pow_pos _), Nat.mul_comm, p64]
    exact b1
  have hl2 : l * 2 ^ s / 18446744073709551616 = l / 2 ^ (64 - s) := by
    rw [← p64, Nat.mul_div_mul_right _ _ p]
  have hnum : (h * 2 ^ s + l / 2 ^ (64 - s)) * 18446744073709551616 + l * 2 ^ s % 18446744073709551616 = (h * 18446744073709551616 + l) * 2 ^ s := by
    have e := Nat.div_add_mod (l * 2 ^ s) 18446744073709551616
    rw [hl2] at e
    rw [Nat.add_mul, Nat.add_mul, Nat.mul_right_comm h]
    omega
  have hu : h * 2 ^ s + l / 2 ^ (64 - s) < y * 2 ^ s := by
    have e1 : (h * 18446744073709551616 + l) * 2 ^ s < y * 18446744073709551616 * 2 ^ s := Nat.mul_lt_mul_of_pos_right (by omega) p
    rw [Nat.mul_right_comm y] at e1
    omega
  refine ⟨y * 2 ^ s, y * 2 ^ s / 4294967296, y * 2 ^ s % 4294967296, h * 2 ^ s + l / 2 ^ (64 - s), l * 2 ^ s % 18446744073709551616, l * 2 ^ s % 18446744073709551616 / 4294967296, l * 2 ^ s % 18446744073709551616 % 4294967296,
    rfl, by omega, by omega, by omega, by omega, by omega, by omega, by omega, hu, hnum, ?_, by omega, ?_, ?_, ?_, by omega, ?_⟩
  · rw [cast_mul_pow]; exact Mul64.wrapN _ y2
  · exact Mul64.maskN _ y2
  · rw [cast_mul_pow, Mul64.wrapN _ hh, show (l : Int) / 2 ^ (64 - s) = ((l / 2 ^ (64 - s) : Nat) : Int) by simp, bits_or_u64_nat _ _ hh (by omega), Nat.mul_comm h, ← Nat.two_pow_add_eq_or_of_lt hl1]
  · rw [cast_mul_pow]; exact Mul64.wrapM _
  · exact Mul64.maskN _ (Nat.mod_lt _ (by decide))

theorem Norm.dig1 {h l y s Y n1 n0 u v d1 d0 : Nat} (k : Norm h l y s Y n1 n0 u v d1 d0) : Dig Y n1 n0 u d1 := ⟨k.halves, k.a1, k.a2, k.a3, k.a4, k.a6⟩
theorem Norm.dig0 {h l y s Y n1 n0 u v d1 d0 : Nat} (k : Norm h l y s Y n1 n0 u v d1 d0) : Dig Y n1 n0 ((u * 4294967296 + d1) % Y) d0 :=
  ⟨k.halves, k.a1, k.a2, k.a3, k.a5, Nat.mod_lt _ (by have := k.halves; have := k.a1; omega)⟩

/-- The rest behind a digit, as the program reckons it. -/
theorem rest_wraps (u d Y : Nat) (hY0 : 0 < Y) (hY : Y < 18446744073709551616) :
    IntKind.u64.wrap (IntKind.u64.wrap (IntKind.u64.wrap ((u : Int) * 4294967296) + (d : Int)) - IntKind.u64.wrap ((((u * 4294967296 + d) / Y : Nat) : Int) * (Y : Int))) = (((u * 4294967296 + d) % Y : Nat) : Int) := by
  have e := Nat.div_add_mod (u * 4294967296 + d) Y
  have e2 := Nat.mod_lt (u * 4294967296 + d) hY0
  have e3 : (((u * 4294967296 + d) / Y : Nat) : Int) * (Y : Int) = ((Y * ((u * 4294967296 + d) / Y) : Nat) : Int) := by rw [Int.mul_comm, Int.natCast_mul]
  rw [e3]
  generalize Y * ((u * 4294967296 + d) / Y) = A at *
  generalize (u * 4294967296 + d) % Y = R at *
  simp only [IntKind.wrap_u64]
  omega

theorem done_num {N u d1 d0 Y y p q1 R q0 R0 : Nat} (hp : 0 < p) (hY0 : 0 < Y) (e1 : Y * q1 + R = u * 4294967296 + d1) (e2 : Y * q0 + R0 = R * 4294967296 + d0) (e3 : R0 < Y)
    (hn : u * 18446744073709551616 + (d1 * 4294967296 + d0) = N * p) (hY : Y = y * p) : q1 * 4294967296 + q0 = N / y ∧ R0 / p = N % y := by
  have e4 : Y * (q1 * 4294967296 + q0) + R0 = N * p := by
    have a1 : Y * (q1 * 4294967296 + q0) = Y * q1 * 4294967296 + Y * q0 := by rw [Nat.mul_add, Nat.mul_assoc]
    rw [a1, ← hn]
    generalize Y * q1 = A at e1 ⊢
    generalize Y * q0 = B at e2 ⊢
    clear hn e3 hY a1
    omega
  have e5 := (Nat.div_mod_unique (a := N * p) (b := Y) (c := R0) (d := q1 * 4294967296 + q0) hY0).2 ⟨by omega, e3⟩
  rw [hY, Nat.mul_div_mul_right _ _ hp, Nat.mul_mod_mul_right] at e5
  refine ⟨e5.1.symm, ?_⟩
  rw [← e5.2, Nat.mul_div_cancel _ hp]

theorem Norm.done {h l y s Y n1 n0 u v d1 d0 : Nat} (k : Norm h l y s Y n1 n0 u v d1 d0) :
    (u * 4294967296 + d1) / Y * 4294967296 + ((u * 4294967296 + d1) % Y * 4294967296 + d0) / Y = (h * 18446744073709551616 + l) / y ∧
    ((u * 4294967296 + d1) % Y * 4294967296 + d0) % Y / 2 ^ s = (h * 18446744073709551616 + l) % y := by
  have hY0 : 0 < Y := by have := k.halves; have := k.a1; omega
  have hn := k.num
  rw [k.hv] at hn
  exact done_num (Nat.two_pow_pos _) hY0 (Nat.div_add_mod _ _) (Nat.div_add_mod _ _) (Nat.mod_lt _ hY0) hn k.hY
/-- All numbers of the way, named. -/
structure Pack (h l y s Y n1 n0 u v d1 d0 qa ra D1 R1 qb rb D0 R0 : Nat) : Prop where
  N : Norm h l y s Y n1 n0 u v d1 d0
  hqa : qa = u / n1
  hra : ra = u % n1
  hD1 : D1 = (u * 4294967296 + d1) / Y
  hR1 : R1 = (u * 4294967296 + d1) % Y
  hqb : qb = R1 / n1
  hrb : rb = R1 % n1
  hD0 : D0 = (R1 * 4294967296 + d0) / Y
  hR0 : R0 = (R1 * 4294967296 + d0) % Y

theorem pack_all (h l y s : Nat) (b1 : l < 18446744073709551616) (b2 : y < 18446744073709551616) (b3 : h < y) (hs : s ≤ 63) (y1 : 9223372036854775808 ≤ y * 2 ^ s) (y2 : y * 2 ^ s < 18446744073709551616) :
    ∃ Y n1 n0 u v d1 d0 qa ra D1 R1 qb rb D0 R0, Pack h l y s Y n1 n0 u v d1 d0 qa ra D1 R1 qb rb D0 R0 ∧ Y < 18446744073709551616 := by
  obtain ⟨Y, n1, n0, u, v, d1, d0, hN⟩ := norm_all h l y s b1 b2 b3 hs y1 y2
  exact ⟨Y, n1, n0, u, v, d1, d0, _, _, _, _, _, _, _, _, ⟨hN, rfl, rfl, rfl, rfl, rfl, rfl, rfl, rfl⟩, by rw [hN.hY]; exact y2⟩

theorem div_wrap {u n q : Nat} (h : q = u / n) (hu : u < 18446744073709551616) : IntKind.u64.wrap ((u : Int) / (n : Int)) = (q : Int) := by
  have e : (u : Int) / (n : Int) = ((u / n : Nat) : Int) := by simp
  rw [e, h]
  exact Mul64.wrapN _ (Nat.lt_of_le_of_lt (Nat.div_le_self _ _) hu)

theorem rem_wrap {u n q r : Nat} (h : q = u / n) (hr : r = u % n) (hu : u < 18446744073709551616) : IntKind.u64.wrap ((u : Int) - IntKind.u64.wrap ((q : Int) * (n : Int))) = (r : Int) := by
  have e := Nat.div_add_mod' u n
  rw [← h, ← hr] at e
  have e2 : (q : Int) * (n : Int) = ((q * n : Nat) : Int) := by simp
  rw [e2]
  generalize q * n = a at *
  simp only [IntKind.wrap_u64]
  omega

/-- A digit's loop. -/
def DigRel (n1 u D : Nat) (w : World) (g : Nat) (x y : Value) (wr : World) : Prop :=
  ∃ q r : Nat, x = .int .u64 q ∧ y = .int .u64 r ∧ w = wr ∧ q * n1 + r = u ∧ D ≤ q ∧ q ≤ 4294967297 ∧ r < 4294967296 ∧ g = q - D

theorem DigRel.start {Y n1 n0 u d D qa ra : Nat} (k : Dig Y n1 n0 u d) (hD : D = (u * 4294967296 + d) / Y) (h1 : qa = u / n1) (h2 : ra = u % n1) (w : World) : DigRel n1 u D w (qa - D) (.int .u64 qa) (.int .u64 ra) w := by
  have h := Nat.mod_lt u (show 0 < n1 by have := k.a1; omega)
  have h3 := k.a2
  have h4 := k.start
  subst h1 h2 hD
  exact ⟨_, _, rfl, rfl, rfl, Nat.div_add_mod' u n1, h4.1, h4.2, by omega, rfl⟩

/-- The ways of a round: the estimate is too great and goes on; it is too great and is then right; it is right. -/
theorem DigRel.ways {Y n1 n0 u d D q r : Nat} (k : Dig Y n1 n0 u d) (hD : D = (u * 4294967296 + d) / Y) (h : q * n1 + r = u) (hge : D ≤ q) (hle : q ≤ 4294967297) :
    (((decide ((4294967296 : Int) ≤ (q : Int)) = true ∨ (decide ((4294967296 : Int) ≤ (q : Int)) = false ∧ decide ((4294967296 : Int) * (r : Int) + (d : Int) < (q : Int) * (n0 : Int)) = true)) ∧ 1 ≤ q ∧
      ((decide ((4294967296 : Int) ≤ (r : Int) + (n1 : Int)) = false ∧ r + n1 < 4294967296 ∧ (q - 1) * n1 + (r + n1) = u ∧ D ≤ q - 1 ∧ D < q) ∨ (decide ((4294967296 : Int) ≤ (r : Int) + (n1 : Int)) = true ∧ (q : Int) - 1 = (D : Int)))) ∨
      (decide ((4294967296 : Int) ≤ (q : Int)) = false ∧ decide ((4294967296 : Int) * (r : Int) + (d : Int) < (q : Int) * (n0 : Int)) = false ∧ q = D)) := by
  have h1 := k.cond h
  have h2 := k.lt
  have e : (q : Int) * (n0 : Int) = ((q * n0 : Nat) : Int) := by simp
  rw [← hD] at h1 h2
  simp only [decide_eq_true_eq, decide_eq_false_iff_not]
  by_cases hc : D < q
  · have h3 := h1.1 hc
    refine .inl ⟨?_, by omega, ?_⟩
    · rw [e]
      by_cases hq : 4294967296 ≤ q
      · exact .inl (by omega)
      · exact .inr ⟨by omega, by omega⟩
    · by_cases hr : 4294967296 ≤ r + n1
      · refine .inr ⟨by omega, ?_⟩
        have := k.broke h (hD ▸ hc) hle hr
        omega
      · exact .inl ⟨by omega, by omega, k.less h (hD ▸ hc), by omega, hc⟩
  · have h3 : ¬ (4294967296 * r + d < q * n0) := fun x => hc (h1.2 x)
    rw [e]
    exact .inr ⟨by omega, by omega, by omega⟩

theorem Pack.Ypos {h l y s Y n1 n0 u v d1 d0 qa ra D1 R1 qb rb D0 R0 : Nat} (k : Pack h l y s Y n1 n0 u v d1 d0 qa ra D1 R1 qb rb D0 R0) : 0 < Y := by have := k.N.halves; have := k.N.a1; omega
theorem Pack.dig0 {h l y s Y n1 n0 u v d1 d0 qa ra D1 R1 qb rb D0 R0 : Nat} (k : Pack h l y s Y n1 n0 u v d1 d0 qa ra D1 R1 qb rb D0 R0) : Dig Y n1 n0 R1 d0 := by rw [k.hR1]; exact k.N.dig0
theorem Pack.lt1 {h l y s Y n1 n0 u v d1 d0 qa ra D1 R1 qb rb D0 R0 : Nat} (k : Pack h l y s Y n1 n0 u v d1 d0 qa ra D1 R1 qb rb D0 R0) : D1 < 4294967296 := by rw [k.hD1]; exact k.N.dig1.lt
theorem Pack.lt0 {h l y s Y n1 n0 u v d1 d0 qa ra D1 R1 qb rb D0 R0 : Nat} (k : Pack h l y s Y n1 n0 u v d1 d0 qa ra D1 R1 qb rb D0 R0) : D0 < 4294967296 := by rw [k.hD0]; exact k.dig0.lt
theorem Pack.ltR {h l y s Y n1 n0 u v d1 d0 qa ra D1 R1 qb rb D0 R0 : Nat} (k : Pack h l y s Y n1 n0 u v d1 d0 qa ra D1 R1 qb rb D0 R0) (hY : Y < 18446744073709551616) : R1 < 18446744073709551616 := Nat.lt_trans k.dig0.a5 hY
theorem Pack.r1 {h l y s Y n1 n0 u v d1 d0 qa ra D1 R1 qb rb D0 R0 : Nat} (k : Pack h l y s Y n1 n0 u v d1 d0 qa ra D1 R1 qb rb D0 R0) (hY : Y < 18446744073709551616) :
    IntKind.u64.wrap (IntKind.u64.wrap (IntKind.u64.wrap ((u : Int) * 4294967296) + (d1 : Int)) - IntKind.u64.wrap ((D1 : Int) * (Y : Int))) = (R1 : Int) := by rw [k.hD1, k.hR1]; exact rest_wraps u d1 Y k.Ypos hY
theorem Pack.r0 {h l y s Y n1 n0 u v d1 d0 qa ra D1 R1 qb rb D0 R0 : Nat} (k : Pack h l y s Y n1 n0 u v d1 d0 qa ra D1 R1 qb rb D0 R0) (hY : Y < 18446744073709551616) :
    IntKind.u64.wrap (IntKind.u64.wrap (IntKind.u64.wrap ((R1 : Int) * 4294967296) + (d0 : Int)) - IntKind.u64.wrap ((D0 : Int) * (Y : Int))) = (R0 : Int) := by rw [k.hD0, k.hR0]; exact rest_wraps R1 d0 Y k.Ypos hY
theorem knuth_end {h l y s Y n1 n0 u v d1 d0 qa ra D1 R1 qb rb D0 R0 Q R : Nat} (k : Pack h l y s Y n1 n0 u v d1 d0 qa ra D1 R1 qb rb D0 R0) (hQ : Q = (h * 18446744073709551616 + l) / y) (hR : R = (h * 18446744073709551616 + l) % y) :
    Ending.returned (.tuple #[.int .u64 ((D1 : Int) * 4294967296 + (D0 : Int)), .int .u64 ((R0 : Int) / 2 ^ s)]) = .returned (.tuple #[.int .u64 Q, .int .u64 R]) := by
  have e := k.N.done
  rw [← k.hD1, ← k.hR1, ← k.hD0, ← k.hR0, ← hQ, ← hR] at e
  rw [← e.1, ← e.2]
  simp

theorem est_mul {q n0 : Nat} (hq : q ≤ 4294967297) (h : n0 < 4294967296) : q * n0 ≤ 18446744073709551615 :=
  Nat.le_trans (Nat.mul_le_mul hq (Nat.le_of_lt_succ h)) (by decide)
end Go.Proofs.YtpfpojehcjmfnaaGreat

/-
  math/bits.Div64: the quotient and the rest of a number of 128 bits, divided by a word.
  Conditions: the upper half is below the divisor.
-/
set_option linter.unusedVariables false
namespace Go.Proofs.YtpfpojehcjmfnaaGreat
open Go.RowKit

theorem lz_num (y : Nat) (b1 : y < 18446744073709551616) (b2 : 0 < y) (w : World) :
    Calls Tryz.prog 183 #[.int .u64 y] w fun e w' => ∃ s : Nat, e = .returned (.int .i64 s) ∧ s ≤ 63 ∧ 9223372036854775808 ≤ y * 2 ^ s ∧ y * 2 ^ s < 18446744073709551616 ∧ w = w' := by
  refine (Tryz.bits_LeadingZeros64 y w (by omega) (by omega)).mono fun e w' h => ?_
  have h1 : 2 ^ y.log2 ≤ y := Nat.log2_self_le (by omega)
  have h2 : y < 2 ^ (y.log2 + 1) := Nat.lt_log2_self
  have h3 : y.log2 < 64 := (Nat.log2_lt (by omega)).2 b1
  have h4 : y / 2 ^ y.log2 = 1 := by
    have p : 0 < 2 ^ y.log2 := Nat.two_pow_pos _
    rw [Nat.pow_succ] at h2
    exact Nat.div_eq_of_lt_le (by omega) (by omega)
  have h5 : Lib.bitLen y = y.log2 + 1 := by
    rw [Lib.bitLen_shift y.log2 y h1 b1, h4]
    rfl
  refine ⟨63 - y.log2, ?_, by omega, ?_, ?_, h.2.symm⟩
  · rw [h.1]
    have e1 : ((64 : Int) - (Lib.bitLen (y : Int).toNat : Int)) = ((63 - y.log2 : Nat) : Int) := by
      rw [Int.toNat_natCast, h5]; omega
    rw [e1]
  · have e2 : 2 ^ y.log2 * 2 ^ (63 - y.log2) = 9223372036854775808 := by
      rw [← Nat.pow_add, show y.log2 + (63 - y.log2) = 63 by omega]
    rw [← e2]
    exact Nat.mul_le_mul_right _ h1
  · have e2 : 2 ^ (y.log2 + 1) * 2 ^ (63 - y.log2) = 18446744073709551616 := by
      rw [← Nat.pow_add, show y.log2 + 1 + (63 - y.log2) = 64 by omega]
    rw [← e2]
    exact Nat.mul_lt_mul_of_pos_right h2 (Nat.two_pow_pos _)

set_option maxRecDepth 100000 in
set_option maxHeartbeats 4000000 in
theorem div64_low (l y : Nat) (b1 : l < 18446744073709551616) (b2 : y < 18446744073709551616) (b3 : 0 < y) (w : World) :
    Calls Tryz.prog 161 #[.int .u64 0, .int .u64 l, .int .u64 y] w fun e w' => e = .returned (.tuple #[.int .u64 ((l / y : Nat) : Int), .int .u64 ((l % y : Nat) : Int)]) ∧ Below w.heap.size w w' := by
  go_enter Tryz.func161, Tryz.ntmps161
  go_wp2_with fail
  go_quiet (fail)
  go_wp2_with fail
  go_returns
  have e1 : IntKind.u64.wrap ((l : Int) / (y : Int)) = ((l / y : Nat) : Int) := div_wrap rfl b1
  have e2 : (l : Int) % (y : Int) = ((l % y : Nat) : Int) := by simp
  refine ⟨?_, below_drewN (Below.refl _ _) nq⟩
  show Ending.returned (.tuple #[.int .u64 (IntKind.u64.wrap ((l : Int) / (y : Int))), .int .u64 ((l : Int) % (y : Int))]) = _
  rw [e1, e2]

set_option maxRecDepth 100000 in
set_option maxHeartbeats 4000000 in
theorem div64_high (h l y : Nat) (b1 : l < 18446744073709551616) (b2 : y < 18446744073709551616) (b3 : h < y) (b4 : (h == 0) = false) (w : World) :
    Calls Tryz.prog 161 #[.int .u64 h, .int .u64 l, .int .u64 y] w fun e w' => e = .returned (.tuple #[.int .u64 (((h * 18446744073709551616 + l) / y : Nat) : Int), .int .u64 (((h * 18446744073709551616 + l) % y : Nat) : Int)]) ∧ Below w.heap.size w w' := by
  have b5 : ((h : Int) == 0) = false := by simpa using b4
  obtain ⟨Q, hQ⟩ : ∃ Q, Q = (h * 18446744073709551616 + l) / y := ⟨_, rfl⟩
  obtain ⟨R, hR⟩ : ∃ R, R = (h * 18446744073709551616 + l) % y := ⟨_, rfl⟩
  rw [← hQ, ← hR]
  have HQ := Lib.hid hQ
  have HR := Lib.hid hR
  clear hQ hR
  go_enter Tryz.func161, Tryz.ntmps161
  go_wp2_with (go_at_call 183; refine (lz_num y b2 (by omega) _).mono ?_; rintro e w1 ⟨s, rfl, hs, y1, y2, rfl⟩; obtain ⟨Y, n1, n0, u, v, d1, d0, qa, ra, D1, R1, qb, rb, D0, R0, hP, hY⟩ := pack_all h l y s b1 b2 b3 hs y1 y2; have HP := Lib.hid hP; clear hP y1 y2; have e1 := HP.out.N.e1; have e2 := HP.out.N.e2; have e3 := HP.out.N.e3; have e4 := HP.out.N.e4; have e5 := HP.out.N.e5; have e6 := HP.out.N.e6; have e7 := HP.out.N.e7; have a1 := HP.out.N.a1; have a2 := HP.out.N.a2; have a3 := HP.out.N.a3; have a4 := HP.out.N.a4; have a5 := HP.out.N.a5; have e8 := div_wrap HP.out.hqa (Nat.lt_trans HP.out.N.a6 hY); have e9 := rem_wrap HP.out.hqa HP.out.hra (Nat.lt_trans HP.out.N.a6 hY); have p1 := HP.out.lt1; have p0 := HP.out.lt0; have t1 := HP.out.r1 hY; have t2 := div_wrap HP.out.hqb (HP.out.ltR hY); have t3 := rem_wrap HP.out.hqb HP.out.hrb (HP.out.ltR hY); have t4 := HP.out.r0 hY)
  go_loopg [15, 16] (qa - D1) (fun g x y wr => DigRel n1 u D1 w g x y wr)
  case atStart => exact DigRel.start HP.out.N.dig1 HP.out.hD1 HP.out.hqa HP.out.hra w
  case round =>
    obtain ⟨q, r, rfl, rfl, hwr, hqr, hge, hle, hr, hgk⟩ := hrel
    subst hwr
    have hways := DigRel.ways HP.out.N.dig1 HP.out.hD1 hqr hge hle
    have hqb := est_mul hle a3
    have HLE := Lib.hid hle
    have HGK := Lib.hid hgk
    clear hqr hgk hge
    rcases hways with ⟨hc, hq1, hn⟩ | ⟨tA, tB, hqD⟩
    · rcases hn with ⟨tC, hr1, hn1, hn2, hn3⟩ | ⟨tC, hn1⟩
      · have HN1 := Lib.hid hn1
        have HN2 := Lib.hid hn2
        have HN3 := Lib.hid hn3
        clear hn1 hn2 hn3
        rcases hc with tA | ⟨tA, tB⟩
        all_goals go_wp2_with fail
        all_goals go_roundg (q - 1 - D1)
        all_goals first
          | (have h1 := HGK.out; have h2 := HN3.out; omega)
          | (have h1 := HLE.out; refine ⟨q - 1, r + n1, ?_, ?_, rfl, HN1.out, HN2.out, by omega, hr1, rfl⟩ <;> (congr 1; all_goals omega))
      · rcases hc with tA | ⟨tA, tB⟩
        · clear HLE HGK
          go_wp2_with fail
          go_loopg [16, 18] (qb - D0) (fun g x y wr => DigRel n1 R1 D0 w g y x wr)
          case atStart => exact DigRel.start HP.out.dig0 HP.out.hD0 HP.out.hqb HP.out.hrb w
          case round =>
            obtain ⟨q2, r2, rfl, rfl, hwr, hqr, hge, hle, hr, hgk⟩ := hrel
            subst hwr
            have hways := DigRel.ways HP.out.dig0 HP.out.hD0 hqr hge hle
            have hqb := est_mul hle a3
            have HLE := Lib.hid hle
            have HGK := Lib.hid hgk
            clear hqr hgk hge
            rcases hways with ⟨hc, hq1, hn⟩ | ⟨tA, tB, hqD⟩
            · rcases hn with ⟨tC, hr1, hn1, hn2, hn3⟩ | ⟨tC, hn1⟩
              · have HN1 := Lib.hid hn1
                have HN2 := Lib.hid hn2
                have HN3 := Lib.hid hn3
                clear hn1 hn2 hn3
                rcases hc with tA | ⟨tA, tB⟩
                all_goals go_wp2_with fail
                all_goals go_roundg (q2 - 1 - D0)
                all_goals first
                  | (have h1 := HGK.out; have h2 := HN3.out; omega)
                  | (have h1 := HLE.out; refine ⟨q2 - 1, r2 + n1, ?_, ?_, rfl, HN1.out, HN2.out, by omega, hr1, rfl⟩ <;> (congr 1; all_goals omega))
              · rcases hc with tA | ⟨tA, tB⟩
                · clear HLE HGK
                  go_wp2_with fail
                  go_returns
                  exact ⟨knuth_end HP.out HQ.out HR.out, Below.refl _ _⟩
                · clear HLE HGK
                  go_wp2_with fail
                  go_returns
                  exact ⟨knuth_end HP.out HQ.out HR.out, Below.refl _ _⟩
            · subst hqD
              clear HLE HGK
              go_wp2_with fail
              go_returns
              exact ⟨knuth_end HP.out HQ.out HR.out, Below.refl _ _⟩
        · clear HLE HGK
          go_wp2_with fail
          go_loopg [16, 18] (qb - D0) (fun g x y wr => DigRel n1 R1 D0 w g y x wr)
          case atStart => exact DigRel.start HP.out.dig0 HP.out.hD0 HP.out.hqb HP.out.hrb w
          case round =>
            obtain ⟨q2, r2, rfl, rfl, hwr, hqr, hge, hle, hr, hgk⟩ := hrel
            subst hwr
            have hways := DigRel.ways HP.out.dig0 HP.out.hD0 hqr hge hle
            have hqb := est_mul hle a3
            have HLE := Lib.hid hle
            have HGK := Lib.hid hgk
            clear hqr hgk hge
            rcases hways with ⟨hc, hq1, hn⟩ | ⟨tA, tB, hqD⟩
            · rcases hn with ⟨tC, hr1, hn1, hn2, hn3⟩ | ⟨tC, hn1⟩
              · have HN1 := Lib.hid hn1
                have HN2 := Lib.hid hn2
                have HN3 := Lib.hid hn3
                clear hn1 hn2 hn3
                rcases hc with tA | ⟨tA, tB⟩
                all_goals go_wp2_with fail
                all_goals go_roundg (q2 - 1 - D0)
                all_goals first
                  | (have h1 := HGK.out; have h2 := HN3.out; omega)
                  | (have h1 := HLE.out; refine ⟨q2 - 1, r2 + n1, ?_, ?_, rfl, HN1.out, HN2.out, by omega, hr1, rfl⟩ <;> (congr 1; all_goals omega))
              · rcases hc with tA | ⟨tA, tB⟩
                · clear HLE HGK
                  go_wp2_with fail
                  go_returns
                  exact ⟨knuth_end HP.out HQ.out HR.out, Below.refl _ _⟩
                · clear HLE HGK
                  go_wp2_with fail
                  go_returns
                  exact ⟨knuth_end HP.out HQ.out HR.out, Below.refl _ _⟩
            · subst hqD
              clear HLE HGK
              go_wp2_with fail
              go_returns
              exact ⟨knuth_end HP.out HQ.out HR.out, Below.refl _ _⟩
    · subst hqD
      clear HLE HGK
      go_wp2_with fail
      go_loopg [16, 18] (qb - D0) (fun g x y wr => DigRel n1 R1 D0 w g y x wr)
      case atStart => exact DigRel.start HP.out.dig0 HP.out.hD0 HP.out.hqb HP.out.hrb w
      case round =>
        obtain ⟨q2, r2, rfl, rfl, hwr, hqr, hge, hle, hr, hgk⟩ := hrel
        subst hwr
        have hways := DigRel.ways HP.out.dig0 HP.out.hD0 hqr hge hle
        have hqb := est_mul hle a3
        have HLE := Lib.hid hle
        have HGK := Lib.hid hgk
        clear hqr hgk hge
        rcases hways with ⟨hc, hq1, hn⟩ | ⟨tA, tB, hqD⟩
        · rcases hn with ⟨tC, hr1, hn1, hn2, hn3⟩ | ⟨tC, hn1⟩
          · have HN1 := Lib.hid hn1
            have HN2 := Lib.hid hn2
            have HN3 := Lib.hid hn3
            clear hn1 hn2 hn3
            rcases hc with tA | ⟨tA, tB⟩
            all_goals go_wp2_with fail
            all_goals go_roundg (q2 - 1 - D0)
            all_goals first
              | (have h1 := HGK.out; have h2 := HN3.out; omega)
              | (have h1 := HLE.out; refine ⟨q2 - 1, r2 + n1, ?_, ?_, rfl, HN1.out, HN2.out, by omega, hr1, rfl⟩ <;> (congr 1; all_goals omega))
          · rcases hc with tA | ⟨tA, tB⟩
            · clear HLE HGK
              go_wp2_with fail
              go_returns
              exact ⟨knuth_end HP.out HQ.out HR.out, Below.refl _ _⟩
            · clear HLE HGK
              go_wp2_with fail
              go_returns
              exact ⟨knuth_end HP.out HQ.out HR.out, Below.refl _ _⟩
        · subst hqD
          clear HLE HGK
          go_wp2_with fail
          go_returns
          exact ⟨knuth_end HP.out HQ.out HR.out, Below.refl _ _⟩
end Go.Proofs.YtpfpojehcjmfnaaGreat

/-
  MulDiv, Ceil and both Compares, as numbers.
  Conditions: each number is a word.
-/
set_option linter.unusedVariables false
namespace Go.Proofs.YtpfpojehcjmfnaaGreat
open Go.RowKit

def qOf (n y : Nat) : Nat := n / y
def rOf (n y : Nat) : Nat := n % y
theorem div64_num (n y : Nat) (b2 : y < 18446744073709551616) (b3 : hiOf n < y) (w : World) :
    Calls Tryz.prog 161 #[.int .u64 (hiOf n), .int .u64 (loOf n), .int .u64 y] w fun e w' => e = .returned (.tuple #[.int .u64 (qOf n y), .int .u64 (rOf n y)]) ∧ Below w.heap.size w w' := by
  have e : hiOf n * 18446744073709551616 + loOf n = n := by unfold hiOf loOf; omega
  by_cases hz : hiOf n = 0
  · have := div64_low (loOf n) y (lo_lt n) b2 (by omega) w
    rw [hz, Nat.zero_mul, Nat.zero_add] at e
    rw [hz, e]
    rw [e] at this
    exact this
  · have := div64_high (hiOf n) (loOf n) y (lo_lt n) b2 b3 (by simpa using hz) w
    rw [e] at this
    exact this

set_option maxHeartbeats 1000000 in
theorem muldiv_ok (a b c : Nat) (b1 : a < 18446744073709551616) (b2 : b < 18446744073709551616) (b3 : c < 18446744073709551616) (hc : (c == 0) = false) (ho : hiOf (a * b) < c) (w : World) :
    Calls Tryz.prog 117 #[.int .u64 a, .int .u64 b, .int .u64 c] w fun e w' => e = .returned (.tuple #[.int .u64 (qOf (a * b) c), .int .u64 (rOf (a * b) c), .int .i64 0]) ∧ Below w.heap.size w w' := by
  have hc' : ((c : Int) == 0) = false := by simpa using hc
  go_enter Tryz.func117, Tryz.ntmps117
  go_wp2_with (first
    | (go_at_call 160; refine (mul64_num a b b1 b2 _).mono ?_; rintro e w1 ⟨rfl, rfl⟩)
    | (go_at_call 161; refine (div64_num (a * b) c b3 ho _).mono ?_; rintro e w1 ⟨rfl, hb⟩))
  go_returns
  exact ⟨rfl, hb⟩

set_option maxHeartbeats 1000000 in
theorem ceil_whole (a b c : Nat) (b1 : a < 18446744073709551616) (b2 : b < 18446744073709551616) (b3 : c < 18446744073709551616) (hc : (c == 0) = false) (ho : hiOf (a * b) < c) (hr : ((rOf (a * b) c : Int) == 0) = true) (w : World) :
    Calls Tryz.prog 116 #[.int .u64 a, .int .u64 b, .int .u64 c] w fun e w' => e = .returned (.tuple #[.int .u64 (qOf (a * b) c), .int .i64 0]) ∧ Below w.heap.size w w' := by
  go_enter Tryz.func116, Tryz.ntmps116
  go_wp2_with (go_at_call 117; refine (muldiv_ok a b c b1 b2 b3 hc ho _).mono ?_; rintro e w1 ⟨rfl, hb⟩)
  go_returns
  exact ⟨rfl, hb⟩

set_option maxHeartbeats 1000000 in
theorem ceil_up (a b c : Nat) (b1 : a < 18446744073709551616) (b2 : b < 18446744073709551616) (b3 : c < 18446744073709551616) (hc : (c == 0) = false) (ho : hiOf (a * b) < c) (hr : ((rOf (a * b) c : Int) == 0) = false) (hq : ((qOf (a * b) c : Int) == 18446744073709551615) = false) (hq2 : qOf (a * b) c < 18446744073709551615) (w : World) :
    Calls Tryz.prog 116 #[.int .u64 a, .int .u64 b, .int .u64 c] w fun e w' => e = .returned (.tuple #[.int .u64 ((qOf (a * b) c : Int) + 1), .int .i64 0]) ∧ Below w.heap.size w w' := by
  go_enter Tryz.func116, Tryz.ntmps116
  go_wp2_with (go_at_call 117; refine (muldiv_ok a b c b1 b2 b3 hc ho _).mono ?_; rintro e w1 ⟨rfl, hb⟩)
  go_returns
  exact ⟨rfl, hb⟩

/-- -1, 0 or 1. -/
def cmpN (x y : Nat) : Int := if x < y then -1 else if x = y then 0 else 1

set_option maxHeartbeats 1000000 in
theorem cmp_num (x y : Nat) (b1 : x < 18446744073709551616) (b2 : y < 18446744073709551616) (w : World) :
    Calls Tryz.prog 182 #[.int .u64 x, .int .u64 y] w fun e w' => e = .returned (.int .i64 (cmpN x y)) ∧ w = w' := by
  by_cases h1 : x < y
  · have e : cmpN x y = -1 := by unfold cmpN; rw [if_pos h1]
    rw [e]
    go_enter Tryz.func182, Tryz.ntmps182
    go_wp2
    go_returns
    exact ⟨rfl, rfl⟩
  · by_cases h2 : x = y
    · have e : cmpN x y = 0 := by unfold cmpN; rw [if_neg h1, if_pos h2]
      rw [e]
      subst h2
      go_enter Tryz.func182, Tryz.ntmps182
      go_wp2
      go_returns
      exact ⟨rfl, rfl⟩
    · have e : cmpN x y = 1 := by unfold cmpN; rw [if_neg h1, if_neg h2]
      rw [e]
      go_enter Tryz.func182, Tryz.ntmps182
      go_wp2
      go_returns
      exact ⟨rfl, rfl⟩
end Go.Proofs.YtpfpojehcjmfnaaGreat

/-
  Both Compares, as numbers.
  Conditions: each number is a word, and no divisor is 0.
-/
set_option linter.unusedVariables false
namespace Go.Proofs.YtpfpojehcjmfnaaGreat
open Go.RowKit

theorem cmp_high {x y : Nat} (h : hiOf x ≠ hiOf y) : cmpN (hiOf x) (hiOf y) = cmpN x y := by
  unfold cmpN
  by_cases h1 : hiOf x < hiOf y
  · have h2 : x < y := by unfold hiOf at *; omega
    rw [if_pos h1, if_pos h2]
  · have h2 : ¬ x < y := by unfold hiOf at *; omega
    have h3 : x ≠ y := fun e => h (by rw [e])
    rw [if_neg h1, if_neg h2, if_neg h, if_neg h3]

theorem cmp_low {x y : Nat} (h : hiOf x = hiOf y) : cmpN (loOf x) (loOf y) = cmpN x y := by
  unfold cmpN
  have h1 : loOf x < loOf y ↔ x < y := by unfold hiOf loOf at *; omega
  have h2 : loOf x = loOf y ↔ x = y := by unfold hiOf loOf at *; omega
  simp only [h1, h2]

set_option maxHeartbeats 1000000 in
theorem compare_ok (a b c d : Nat) (b1 : a < 18446744073709551616) (b2 : b < 18446744073709551616) (b3 : c < 18446744073709551616) (b4 : d < 18446744073709551616) (hb : (b == 0) = false) (hd : (d == 0) = false) (w : World) :
    Calls Tryz.prog 159 #[.int .u64 a, .int .u64 b, .int .u64 c, .int .u64 d] w fun e w' => e = .returned (.tuple #[.int .i64 (cmpN (a * d) (c * b)), .int .i64 0]) ∧ w = w' := by
  have hb' : ((b : Int) == 0) = false := by simpa using hb
  have hd' : ((d : Int) == 0) = false := by simpa using hd
  have l1 := hi_lt (mul_lt128 b1 b4)
  have l2 := hi_lt (mul_lt128 b3 b2)
  have l3 := lo_lt (a * d)
  have l4 := lo_lt (c * b)
  by_cases hh : hiOf (a * d) = hiOf (c * b)
  · rw [← cmp_low hh]
    have ht : ((hiOf (a * d) : Int) != (hiOf (c * b) : Int)) = false := by rw [hh]; simp
    go_enter Tryz.func159, Tryz.ntmps159
    go_wp2_with (first
      | (go_at_call 160; have hx := HM1; clear hx; refine (mul64_num c b b3 b2 _).mono ?_; rintro e w1 ⟨rfl, rfl⟩)
      | (go_at_call 160; refine (mul64_num a d b1 b4 _).mono ?_; rintro e w1 ⟨rfl, rfl⟩; have HM1 := Lib.hid b1)
      | (go_at_call 182; refine (cmp_num _ _ l3 l4 _).mono ?_; rintro e w1 ⟨rfl, rfl⟩))
    go_returns
    exact ⟨rfl, rfl⟩
  · rw [← cmp_high hh]
    have ht : ((hiOf (a * d) : Int) != (hiOf (c * b) : Int)) = true := by simp; omega
    go_enter Tryz.func159, Tryz.ntmps159
    go_wp2_with (first
      | (go_at_call 160; have hx := HM1; clear hx; refine (mul64_num c b b3 b2 _).mono ?_; rintro e w1 ⟨rfl, rfl⟩)
      | (go_at_call 160; refine (mul64_num a d b1 b4 _).mono ?_; rintro e w1 ⟨rfl, rfl⟩; have HM1 := Lib.hid b1)
      | (go_at_call 182; refine (cmp_num _ _ l1 l2 _).mono ?_; rintro e w1 ⟨rfl, rfl⟩))
    go_returns
    exact ⟨rfl, rfl⟩

end Go.Proofs.YtpfpojehcjmfnaaGreat

/-
  A member's pass, which of two passes is less, a pass times a weight.
  Conditions: the numbers are words.
-/
set_option linter.unusedVariables false
namespace Go.Proofs.YtpfpojehcjmfnaaGreat.Rn
open Go.RowKit Go.Sort

/-- The world but for draws and blocks that were laid. -/
def Grown (w w' : World) : Prop := ∃ q os', w' = grow (w.drewN q) os'
theorem Grown.refl (w : World) : Grown w w := ⟨0, #[], by rw [grow_empty]; rfl⟩
theorem Grown.alloc {w w' : World} (h : Grown w w') (o : Obj) : Grown w (w'.alloc o) := by
  obtain ⟨q, os', rfl⟩ := h
  exact ⟨q, os' ++ #[o], by rw [alloc_eq_grow, grow_grow]⟩
theorem grow_below (w : World) (os : Array Obj) : Below w.heap.size w (grow w os) := ⟨rfl, rfl, rfl, by simp [grow], fun k hk => by
  show (w.heap ++ os)[k]? = w.heap[k]?
  rw [Array.getElem?_append_left hk]⟩
theorem Grown.below {w w' : World} (h : Grown w w') : Below w.heap.size w w' := by
  obtain ⟨q, os, rfl⟩ := h
  exact (below_drewN (Below.refl w.heap.size w) q).trans (grow_below (w.drewN q) os)
/-- What a call answers that reads, may draw, and lays blocks of its own. -/
def RetG (v : Value) (w : World) (e : Ending) (w' : World) : Prop := e = .returned v ∧ Grown w w'
theorem grown_met {f : FuncId} {args : Array Value} {w : World} {n : Nat} {os : Array Obj} {v : Value} (h : Calls Tryz.prog f args (grow (w.drewN n) os) (RetG v (grow (w.drewN n) os))) :
    Calls Tryz.prog f args (grow (w.drewN n) os) fun e w'' => e = .returned v ∧ ∃ p : GrownBy, w'' = grow (w.drewN p.n) p.os :=
  Calls.grown_of (h.mono fun _ _ h => h)

def passA (n d : Nat) : Value := .agg #[.int .u64 n, .int .u64 d]
theorem Tryz.sizePass (a b : Value) : (Tryz.prog.info? 112).map (·.size) = some (#[a, b] : Array Value).size := by
  show _ = some 2
  kernel_rfl

theorem pass_any (m : Mb) (hw : m.w ≤ 1000) (W : World) : Calls Tryz.prog 115 #[mbA m] W (RetG (passA m.n m.w) W) := by
  obtain ⟨m1, m2, m3, m4⟩ := m
  simp only at hw
  unfold mbA passA
  have hb : (m2 : Int) < 18446744073709551616 := by omega
  go_enter Tryz.func115, Tryz.ntmps115
  go_wp2
  go_returns
  exact ⟨rfl, ((Grown.refl W).alloc _).alloc _⟩

theorem cmp_lt {x y : Nat} (h : x < y) : cmpN x y = -1 := by unfold cmpN; rw [if_pos h]
theorem cmp_ge {x y : Nat} (h : ¬ x < y) : decide (cmpN x y < 0) = false := by
  unfold cmpN
  rw [if_neg h]
  split <;> rfl
theorem less_any (a b c d : Nat) (b1 : a < 18446744073709551616) (b2 : b < 18446744073709551616) (b3 : c < 18446744073709551616) (b4 : d < 18446744073709551616) (hb : (b == 0) = false) (hd : (d == 0) = false) (W : World) :
    Calls Tryz.prog 120 #[passA a b, passA c d] W (RetG (.bool (decide (a * d < c * b))) W) := by
  have HC := Lib.hid (fun W => compare_ok a b c d b1 b2 b3 b4 hb hd W)
  unfold passA
  have hv : decide (cmpN (a * d) (c * b) < 0) = decide (a * d < c * b) := by
    by_cases h : a * d < c * b
    · rw [cmp_lt h, decide_eq_true h]; rfl
    · rw [cmp_ge h, decide_eq_false h]
  rw [← hv]
  generalize cmpN (a * d) (c * b) = r at *
  clear hb hd hv
  go_enter Tryz.func120, Tryz.ntmps120
  go_wp2_with (go_at_call 159; refine (HC.out _).mono ?_; rintro e w1 ⟨rfl, rfl⟩)
  all_goals go_ret
  all_goals exact ⟨by simp_all, ((Grown.refl W).alloc _).alloc _⟩

theorem u64_small {a : Nat} (h : a < 18446744073709551616) : IntKind.u64.wrap (a : Int) = (a : Int) := by rw [IntKind.wrap_u64]; omega
theorem quo_up {a b c : Nat} (hc : 0 < c) : upN (a, c) b = if rOf (a * b) c = 0 then qOf (a * b) c else qOf (a * b) c + 1 := by
  obtain ⟨h1, h2⟩ := upN_spec (f := (a, c)) b hc
  simp only at h1 h2
  have hq := Nat.div_add_mod (a * b) c
  have hm := Nat.mod_lt (a * b) hc
  rw [Nat.mul_comm c] at hq
  unfold rOf qOf
  split
  · exact up_one h1 h2 (by omega) (by omega)
  · exact up_one h1 h2 (by rw [Nat.add_mul, Nat.one_mul]; omega) (by rw [Nat.add_mul, Nat.one_mul]; omega)
theorem ceil_small (a b c : Nat) (b1 : a < 18446744073709551616) (b2 : b < 18446744073709551616) (b3 : c < 18446744073709551616) (hc : 0 < c) (hq : qOf (a * b) c < 18446744073709551615) (W : World) :
    Calls Tryz.prog 116 #[.int .u64 a, .int .u64 b, .int .u64 c] W (RetB (.tuple #[.int .u64 (upN (a, c) b), .int .i64 0]) W) := by
  have ho : hiOf (a * b) < c := by
    unfold hiOf qOf at *
    rw [Nat.div_lt_iff_lt_mul (by decide)]
    have := (Nat.div_lt_iff_lt_mul hc).1 hq
    have k : 18446744073709551615 * c ≤ c * 18446744073709551616 := by omega
    omega
  have hc0 : (c == 0) = false := by simp; omega
  rw [quo_up hc]
  by_cases hr : rOf (a * b) c = 0
  · rw [if_pos hr]
    exact (ceil_whole a b c b1 b2 b3 hc0 ho (by rw [hr]; rfl) W).mono fun _ _ h => h
  · rw [if_neg hr]
    exact (ceil_up a b c b1 b2 b3 hc0 ho (by simpa using hr) (by simp; omega) hq W).mono fun _ _ h => ⟨by rw [h.1]; rfl, h.2⟩
theorem muldiv_small (a b c : Nat) (b1 : a < 18446744073709551616) (b2 : b < 18446744073709551616) (b3 : c < 18446744073709551616) (hc : 0 < c) (hq : qOf (a * b) c < 18446744073709551615) (W : World) :
    Calls Tryz.prog 117 #[.int .u64 a, .int .u64 b, .int .u64 c] W (RetB (.tuple #[.int .u64 (downN (a, c) b), .int .u64 (rOf (a * b) c), .int .i64 0]) W) := by
  have ho : hiOf (a * b) < c := by
    unfold hiOf qOf at *
    rw [Nat.div_lt_iff_lt_mul (by decide)]
    have := (Nat.div_lt_iff_lt_mul hc).1 hq
    have k : 18446744073709551615 * c ≤ c * 18446744073709551616 := by omega
    omega
  have hc0 : (c == 0) = false := by simp; omega
  exact (muldiv_ok a b c b1 b2 b3 hc0 ho W).mono fun _ _ h => h

/-- A fraction that is at most C, and its bounds. -/
structure Frac (f : Nat × Nat) : Prop where
  pos : 0 < f.2
  den : f.2 ≤ 1000
  num : f.1 ≤ 1099511627776 * f.2
theorem Frac.down {f : Nat × Nat} (h : Frac f) {w : Nat} (hw : w ≤ 1000) : downN f w ≤ 1099511627776000 := by
  have := down_le (w := w) h.pos h.num
  omega
theorem times_any (f : Nat × Nat) (w : Nat) (h : Frac f) (hw : w ≤ 1000) (W : World) :
    Calls Tryz.prog 71 #[passA f.1 f.2, .int .i64 w] W (RetB (.tuple #[.int .u64 (upN f w), .int .u64 (downN f w + 1 : Nat)]) W) := by
  have hd := h.down hw
  have h1 := h.num
  have h2 := h.den
  have HC := Lib.hid (fun W => ceil_small f.1 w f.2 (by omega) (by omega) (by omega) h.pos (by unfold downN at hd; unfold qOf; omega) W)
  have HM := Lib.hid (fun W => muldiv_small f.1 w f.2 (by omega) (by omega) (by omega) h.pos (by unfold downN at hd; unfold qOf; omega) W)
  obtain ⟨n, d⟩ := f
  simp only at HC HM
  unfold passA
  generalize upN (n, d) w = u at *
  generalize rOf (n * w) d = r at *
  obtain ⟨q, hq⟩ : ∃ q, downN (n, d) w = q := ⟨_, rfl⟩
  obtain ⟨q1, hq1⟩ : ∃ q1, q + 1 = q1 := ⟨_, rfl⟩
  rw [hq] at HM hd ⊢
  rw [hq1]
  have y1 : (q : Int) + 1 = (q1 : Int) := by omega
  have y2 : (q : Int) ≤ 1099511627776000 := by omega
  have y3 : (w : Int) ≤ 1000 := by omega
  clear h h1 h2 hq hq1 hd hw
  go_enter Tryz.func71, Tryz.ntmps71
  go_wp2_with fail
  have hb0 := (Below.refl W.heap.size W).alloc (Nat.le_refl _) (.cells #[.int .u64 n, .int .u64 d] 112)
  have HB0 := Lib.hid hb0
  have c0 : (W.alloc (.cells #[.int .u64 n, .int .u64 d] 112)).cell? ⟨W.heap.size, 0, none⟩ = some (.int .u64 n) := World.cell?_alloc_new (w := W) _ _ 0
  have c1 : (W.alloc (.cells #[.int .u64 n, .int .u64 d] 112)).cell? ⟨W.heap.size, 1, none⟩ = some (.int .u64 d) := World.cell?_alloc_new (w := W) _ _ 1
  have hz : W.heap.size < (W.alloc (.cells #[.int .u64 n, .int .u64 d] 112)).heap.size := by simp
  generalize hw0 : W.alloc (.cells #[.int .u64 n, .int .u64 d] 112) = w0 at *
  clear hw0 hb0
  refine (HC.out _).mono ?_
  rintro e w1 ⟨rfl, hb⟩
  have HB1 := Lib.hid hb
  have e0 := (hb.cell (p := ⟨W.heap.size, 0, none⟩) hz).trans c0
  have e1 := (hb.cell (p := ⟨W.heap.size, 1, none⟩) hz).trans c1
  clear hb c0 c1 hz
  go_wp2_with fail
  refine (HM.out _).mono ?_
  rintro e w2 ⟨rfl, hb⟩
  have HB2 := Lib.hid hb
  clear hb e0 e1
  go_wp2
  go_ret2
  exact ⟨rfl, HB0.out.trans ((HB1.out.trans (HB2.out.mono HB1.out.size)).mono HB0.out.size)⟩
end Go.Proofs.YtpfpojehcjmfnaaGreat.Rn
