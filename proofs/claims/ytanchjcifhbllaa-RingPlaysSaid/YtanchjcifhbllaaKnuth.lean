/-
  math/bits.Div64: the quotient and the rest of a number of 128 bits, divided by a word.
  Conditions: the upper half is below the divisor.
-/
import Derived.Test.YtanchjcifhbllaaDigits
set_option linter.unusedVariables false
namespace Go.Proofs.Ytanchjcifhbllaa
open Go.RowKit

theorem lz_num (y : Nat) (b1 : y < 18446744073709551616) (b2 : 0 < y) (w : World) :
    Calls Try.prog 69 #[.int .u64 y] w fun e w' => ∃ s : Nat, e = .returned (.int .i64 s) ∧ s ≤ 63 ∧ 9223372036854775808 ≤ y * 2 ^ s ∧ y * 2 ^ s < 18446744073709551616 ∧ w = w' := by
  refine (Try.bits_LeadingZeros64 y w (by omega) (by omega)).mono fun e w' h => ?_
  have h1 : 2 ^ y.log2 ≤ y := Nat.log2_self_le (by omega)
  have h2 : y < 2 ^ (y.log2 + 1) := Nat.lt_log2_self
  have h3 : y.log2 < 64 := (Nat.log2_lt (by omega)).2 b1
  have h4 : y / 2 ^ y.log2 = 1 := by
    have p : 0 < 2 ^ y.log2 := Nat.two_pow_pos _
    rw [Nat.pow_succ] at h2
    exact Nat.div_eq_of_lt_le (by omega) (by omega)
  have h5 : Lib.bitLen y = y.log2 + 1 := by
    rw [Lib.bitLen_shift y.log2 y h1 b1, h4]
    rfl
  refine ⟨63 - y.log2, ?_, by omega, ?_, ?_, h.2.symm⟩
  · rw [h.1]
    have e1 : ((64 : Int) - (Lib.bitLen (y : Int).toNat : Int)) = ((63 - y.log2 : Nat) : Int) := by
      rw [Int.toNat_natCast, h5]; omega
    rw [e1]
  · have e2 : 2 ^ y.log2 * 2 ^ (63 - y.log2) = 9223372036854775808 := by
      rw [← Nat.pow_add, show y.log2 + (63 - y.log2) = 63 by omega]
    rw [← e2]
    exact Nat.mul_le_mul_right _ h1
  · have e2 : 2 ^ (y.log2 + 1) * 2 ^ (63 - y.log2) = 18446744073709551616 := by
      rw [← Nat.pow_add, show y.log2 + 1 + (63 - y.log2) = 64 by omega]
    rw [← e2]
    exact Nat.mul_lt_mul_of_pos_right h2 (Nat.two_pow_pos _)

set_option maxRecDepth 100000 in
set_option maxHeartbeats 4000000 in
theorem div64_low (l y : Nat) (b1 : l < 18446744073709551616) (b2 : y < 18446744073709551616) (b3 : 0 < y) (w : World) :
    Calls Try.prog 65 #[.int .u64 0, .int .u64 l, .int .u64 y] w fun e w' => e = .returned (.tuple #[.int .u64 ((l / y : Nat) : Int), .int .u64 ((l % y : Nat) : Int)]) ∧ Below w.heap.size w w' := by
  go_enter Try.func65, Try.ntmps65
  go_wp2_with fail
  go_quiet (fail)
  go_wp2_with fail
  go_returns
  have e1 : IntKind.u64.wrap ((l : Int) / (y : Int)) = ((l / y : Nat) : Int) := div_wrap rfl b1
  have e2 : (l : Int) % (y : Int) = ((l % y : Nat) : Int) := by simp
  refine ⟨?_, below_drewN (Below.refl _ _) nq⟩
  show Ending.returned (.tuple #[.int .u64 (IntKind.u64.wrap ((l : Int) / (y : Int))), .int .u64 ((l : Int) % (y : Int))]) = _
  rw [e1, e2]

set_option maxRecDepth 100000 in
set_option maxHeartbeats 4000000 in
theorem div64_high (h l y : Nat) (b1 : l < 18446744073709551616) (b2 : y < 18446744073709551616) (b3 : h < y) (b4 : (h == 0) = false) (w : World) :
    Calls Try.prog 65 #[.int .u64 h, .int .u64 l, .int .u64 y] w fun e w' => e = .returned (.tuple #[.int .u64 (((h * 18446744073709551616 + l) / y : Nat) : Int), .int .u64 (((h * 18446744073709551616 + l) % y : Nat) : Int)]) ∧ Below w.heap.size w w' := by
  have b5 : ((h : Int) == 0) = false := by simpa using b4
  obtain ⟨Q, hQ⟩ : ∃ Q, Q = (h * 18446744073709551616 + l) / y := ⟨_, rfl⟩
  obtain ⟨R, hR⟩ : ∃ R, R = (h * 18446744073709551616 + l) % y := ⟨_, rfl⟩
  rw [← hQ, ← hR]
  have HQ := Lib.hid hQ
  have HR := Lib.hid hR
  clear hQ hR
  go_enter Try.func65, Try.ntmps65
  go_wp2_with (go_at_call 69; refine (lz_num y b2 (by omega) _).mono ?_; rintro e w1 ⟨s, rfl, hs, y1, y2, rfl⟩; obtain ⟨Y, n1, n0, u, v, d1, d0, qa, ra, D1, R1, qb, rb, D0, R0, hP, hY⟩ := pack_all h l y s b1 b2 b3 hs y1 y2; have HP := Lib.hid hP; clear hP y1 y2; have e1 := HP.out.N.e1; have e2 := HP.out.N.e2; have e3 := HP.out.N.e3; have e4 := HP.out.N.e4; have e5 := HP.out.N.e5; have e6 := HP.out.N.e6; have e7 := HP.out.N.e7; have a1 := HP.out.N.a1; have a2 := HP.out.N.a2; have a3 := HP.out.N.a3; have a4 := HP.out.N.a4; have a5 := HP.out.N.a5; have e8 := div_wrap HP.out.hqa (Nat.lt_trans HP.out.N.a6 hY); have e9 := rem_wrap HP.out.hqa HP.out.hra (Nat.lt_trans HP.out.N.a6 hY); have p1 := HP.out.lt1; have p0 := HP.out.lt0; have t1 := HP.out.r1 hY; have t2 := div_wrap HP.out.hqb (HP.out.ltR hY); have t3 := rem_wrap HP.out.hqb HP.out.hrb (HP.out.ltR hY); have t4 := HP.out.r0 hY)
  go_loopg [15, 16] (qa - D1) (fun g x y wr => DigRel n1 u D1 w g x y wr)
  case atStart => exact DigRel.start HP.out.N.dig1 HP.out.hD1 HP.out.hqa HP.out.hra w
  case round =>
    obtain ⟨q, r, rfl, rfl, hwr, hqr, hge, hle, hr, hgk⟩ := hrel
    subst hwr
    have hways := DigRel.ways HP.out.N.dig1 HP.out.hD1 hqr hge hle
    have hqb := est_mul hle a3
    have HLE := Lib.hid hle
    have HGK := Lib.hid hgk
    clear hqr hgk hge
    rcases hways with ⟨hc, hq1, hn⟩ | ⟨tA, tB, hqD⟩
    · rcases hn with ⟨tC, hr1, hn1, hn2, hn3⟩ | ⟨tC, hn1⟩
      · have HN1 := Lib.hid hn1
        have HN2 := Lib.hid hn2
        have HN3 := Lib.hid hn3
        clear hn1 hn2 hn3
        rcases hc with tA | ⟨tA, tB⟩
        all_goals go_wp2_with fail
        all_goals go_roundg (q - 1 - D1)
        all_goals first
          | (have h1 := HGK.out; have h2 := HN3.out; omega)
          | (have h1 := HLE.out; refine ⟨q - 1, r + n1, ?_, ?_, rfl, HN1.out, HN2.out, by omega, hr1, rfl⟩ <;> (congr 1; all_goals omega))
      · rcases hc with tA | ⟨tA, tB⟩
        · clear HLE HGK
          go_wp2_with fail
          go_loopg [16, 18] (qb - D0) (fun g x y wr => DigRel n1 R1 D0 w g y x wr)
          case atStart => exact DigRel.start HP.out.dig0 HP.out.hD0 HP.out.hqb HP.out.hrb w
          case round =>
            obtain ⟨q2, r2, rfl, rfl, hwr, hqr, hge, hle, hr, hgk⟩ := hrel
            subst hwr
            have hways := DigRel.ways HP.out.dig0 HP.out.hD0 hqr hge hle
            have hqb := est_mul hle a3
            have HLE := Lib.hid hle
            have HGK := Lib.hid hgk
            clear hqr hgk hge
            rcases hways with ⟨hc, hq1, hn⟩ | ⟨tA, tB, hqD⟩
            · rcases hn with ⟨tC, hr1, hn1, hn2, hn3⟩ | ⟨tC, hn1⟩
              · have HN1 := Lib.hid hn1
                have HN2 := Lib.hid hn2
                have HN3 := Lib.hid hn3
                clear hn1 hn2 hn3
                rcases hc with tA | ⟨tA, tB⟩
                all_goals go_wp2_with fail
                all_goals go_roundg (q2 - 1 - D0)
                all_goals first
                  | (have h1 := HGK.out; have h2 := HN3.out; omega)
                  | (have h1 := HLE.out; refine ⟨q2 - 1, r2 + n1, ?_, ?_, rfl, HN1.out, HN2.out, by omega, hr1, rfl⟩ <;> (congr 1; all_goals omega))
              · rcases hc with tA | ⟨tA, tB⟩
                · clear HLE HGK
                  go_wp2_with fail
                  go_returns
                  exact ⟨knuth_end HP.out HQ.out HR.out, Below.refl _ _⟩
                · clear HLE HGK
                  go_wp2_with fail
                  go_returns
                  exact ⟨knuth_end HP.out HQ.out HR.out, Below.refl _ _⟩
            · subst hqD
              clear HLE HGK
              go_wp2_with fail
              go_returns
              exact ⟨knuth_end HP.out HQ.out HR.out, Below.refl _ _⟩
        · clear HLE HGK
          go_wp2_with fail
          go_loopg [16, 18] (qb - D0) (fun g x y wr => DigRel n1 R1 D0 w g y x wr)
          case atStart => exact DigRel.start HP.out.dig0 HP.out.hD0 HP.out.hqb HP.out.hrb w
          case round =>
            obtain ⟨q2, r2, rfl, rfl, hwr, hqr, hge, hle, hr, hgk⟩ := hrel
            subst hwr
            have hways := DigRel.ways HP.out.dig0 HP.out.hD0 hqr hge hle
            have hqb := est_mul hle a3
            have HLE := Lib.hid hle
            have HGK := Lib.hid hgk
            clear hqr hgk hge
            rcases hways with ⟨hc, hq1, hn⟩ | ⟨tA, tB, hqD⟩
            · rcases hn with ⟨tC, hr1, hn1, hn2, hn3⟩ | ⟨tC, hn1⟩
              · have HN1 := Lib.hid hn1
                have HN2 := Lib.hid hn2
                have HN3 := Lib.hid hn3
                clear hn1 hn2 hn3
                rcases hc with tA | ⟨tA, tB⟩
                all_goals go_wp2_with fail
                all_goals go_roundg (q2 - 1 - D0)
                all_goals first
                  | (have h1 := HGK.out; have h2 := HN3.out; omega)
                  | (have h1 := HLE.out; refine ⟨q2 - 1, r2 + n1, ?_, ?_, rfl, HN1.out, HN2.out, by omega, hr1, rfl⟩ <;> (congr 1; all_goals omega))
              · rcases hc with tA | ⟨tA, tB⟩
                · clear HLE HGK
                  go_wp2_with fail
                  go_returns
                  exact ⟨knuth_end HP.out HQ.out HR.out, Below.refl _ _⟩
                · clear HLE HGK
                  go_wp2_with fail
                  go_returns
                  exact ⟨knuth_end HP.out HQ.out HR.out, Below.refl _ _⟩
            · subst hqD
              clear HLE HGK
              go_wp2_with fail
              go_returns
              exact ⟨knuth_end HP.out HQ.out HR.out, Below.refl _ _⟩
    · subst hqD
      clear HLE HGK
      go_wp2_with fail
      go_loopg [16, 18] (qb - D0) (fun g x y wr => DigRel n1 R1 D0 w g y x wr)
      case atStart => exact DigRel.start HP.out.dig0 HP.out.hD0 HP.out.hqb HP.out.hrb w
      case round =>
        obtain ⟨q2, r2, rfl, rfl, hwr, hqr, hge, hle, hr, hgk⟩ := hrel
        subst hwr
        have hways := DigRel.ways HP.out.dig0 HP.out.hD0 hqr hge hle
        have hqb := est_mul hle a3
        have HLE := Lib.hid hle
        have HGK := Lib.hid hgk
        clear hqr hgk hge
        rcases hways with ⟨hc, hq1, hn⟩ | ⟨tA, tB, hqD⟩
        · rcases hn with ⟨tC, hr1, hn1, hn2, hn3⟩ | ⟨tC, hn1⟩
          · have HN1 := Lib.hid hn1
            have HN2 := Lib.hid hn2
            have HN3 := Lib.hid hn3
            clear hn1 hn2 hn3
            rcases hc with tA | ⟨tA, tB⟩
            all_goals go_wp2_with fail
            all_goals go_roundg (q2 - 1 - D0)
            all_goals first
              | (have h1 := HGK.out; have h2 := HN3.out; omega)
              | (have h1 := HLE.out; refine ⟨q2 - 1, r2 + n1, ?_, ?_, rfl, HN1.out, HN2.out, by omega, hr1, rfl⟩ <;> (congr 1; all_goals omega))
          · rcases hc with tA | ⟨tA, tB⟩
            · clear HLE HGK
              go_wp2_with fail
              go_returns
              exact ⟨knuth_end HP.out HQ.out HR.out, Below.refl _ _⟩
            · clear HLE HGK
              go_wp2_with fail
              go_returns
              exact ⟨knuth_end HP.out HQ.out HR.out, Below.refl _ _⟩
        · subst hqD
          clear HLE HGK
          go_wp2_with fail
          go_returns
          exact ⟨knuth_end HP.out HQ.out HR.out, Below.refl _ _⟩
end Go.Proofs.Ytanchjcifhbllaa
