/-
  What bytes begin with: the program's reading.
  Conditions: none beyond what the slice reads as.
-/
import Derived.Test.YtaffcpjhaacadaaEnc
import Derived.Laws.BitsAllLaws
import Derived.Deep.Cut
import Derived.Deep.CutRange
set_option linter.unusedVariables false
namespace Go.Proofs.Ytaffcpjhaacadaa
open Go.RowKit

theorem pow7 (i : Nat) : (2 : Nat) ^ (7 * i) = 128 ^ i := by rw [Nat.pow_mul]
theorem or_more {acc y i : Nat} (ha : acc < 128 ^ i) : acc ||| y * 128 ^ i = acc + y * 128 ^ i := by
  rw [← pow7] at *
  rw [Nat.mul_comm, Nat.or_comm, ← Nat.two_pow_add_eq_or_of_lt ha, Nat.add_comm]
theorem acc_more {acc x i : Nat} (ha : acc < 128 ^ i) (hx : x < 128) : acc + x * 128 ^ i < 128 ^ (i + 1) := by
  have h1 : (x + 1) * 128 ^ i ≤ 128 * 128 ^ i := Nat.mul_le_mul_right _ hx
  rw [Nat.add_mul, Nat.one_mul] at h1
  rw [Nat.pow_succ, Nat.mul_comm (128 ^ i) 128]
  omega
theorem pow_small {i : Nat} (h : i ≤ 9) : (128 : Nat) ^ i ≤ 9223372036854775808 :=
  Nat.le_trans (Nat.pow_le_pow_right (by decide) h) (by decide)
theorem read_word {acc y i : Nat} (ha : acc < 128 ^ i) (h : acc + y * 128 ^ i < 18446744073709551616) :
    bits BinOp.or IntKind.u64 (acc : Int) (IntKind.u64.wrap ((y : Int) * 2 ^ (7 * i))) = ((acc + y * 128 ^ i : Nat) : Int) := by
  have e : ((y : Int) * 2 ^ (7 * i)) = ((y * 128 ^ i : Nat) : Int) := by rw [← pow7]; simp
  rw [e]
  have e2 : IntKind.u64.wrap ((y * 128 ^ i : Nat) : Int) = ((y * 128 ^ i : Nat) : Int) := by
    generalize y * 128 ^ i = K at *
    rw [IntKind.wrap_u64]
    omega
  rw [e2, bits_or_u64_nat _ _ (by omega) (by omega), or_more ha]
theorem wrap_nat (a : Int) : ∃ z : Nat, z < 18446744073709551616 ∧ IntKind.u64.wrap a = (z : Int) := by
  refine ⟨(IntKind.u64.wrap a).toNat, ?_, ?_⟩ <;> rw [IntKind.wrap_u64] <;> omega
theorem any_word (z : Nat) (hz : z < 18446744073709551616) (a : Int) : ∃ r : Nat, r < 18446744073709551616 ∧ bits BinOp.or IntKind.u64 (z : Int) (IntKind.u64.wrap a) = (r : Int) := by
  obtain ⟨y, hy, e⟩ := wrap_nat a
  rw [e, bits_or_u64_nat _ _ hz hy]
  exact ⟨_, by rw [show (18446744073709551616 : Nat) = 2 ^ 64 by decide] at *; exact Nat.or_lt_two_pow hz hy, rfl⟩
theorem x_room {acc x i : Nat} (ha : acc < 128 ^ i) (hi : i < 10) (hx : x < 128) (h9 : i = 9 → x ≤ 1) : acc + x * 128 ^ i < 18446744073709551616 := by
  by_cases h : i = 9
  · subst h
    have e : (128 : Nat) ^ 9 = 9223372036854775808 := by decide
    have := h9 rfl
    rw [e] at *
    omega
  · have h1 := acc_more ha hx
    have h2 := pow_small (i := i + 1) (by omega)
    omega

def LeadRel (bs : List Nat) (m : Nat) (s2 s14 : Value) : Prop :=
  ∃ i acc z : Nat, i ≤ m ∧ s14 = .int .i64 i ∧ s2 = .int .u64 z ∧ z < 18446744073709551616 ∧ (i < 10 → z = acc ∧ acc < 128 ^ i) ∧ lead i acc (bs.drop i) = lead 0 0 bs

set_option maxRecDepth 100000 in
set_option maxHeartbeats 1000000 in
theorem leading_any (v : Value) (bs : List Nat) (w : World) (hv : BytesAt w v bs) :
    Calls Try.prog 39 #[v] w (Ret (.tuple #[.int .u64 (lead 0 0 bs).1, .int .i64 (lead 0 0 bs).2]) w) := by
  obtain ⟨A, c, rfl, h1, h2, h3, h4, h5⟩ := hv
  have HAT := Lib.hid h5
  have HS := Lib.hid h4
  have hm : min (bs.length : Int) 10 = ((min bs.length 10 : Nat) : Int) := by omega
  have hm1 : min bs.length 10 ≤ bs.length := Nat.min_le_left _ _
  have hm2 : min bs.length 10 ≤ 10 := Nat.min_le_right _ _
  have HM := Lib.hid (show min bs.length 10 < 10 → min bs.length 10 = bs.length by omega)
  generalize min bs.length 10 = m at *
  generalize hn : bs.length = n at *
  have HN := Lib.hid hn
  clear hn
  have hmc : (m : Int) ≤ (c : Int) := by omega
  have hm0 : (0 : Int) ≤ (m : Int) := by omega
  clear h5 h4
  go_enter Try.func39, Try.ntmps39
  go_upto_region 1 with fail
  go_cut [12, 13, 14] from 8 to 15 (fun s12 s13 s14 w' => s12 = .slice A m c ∧ s13 = .int .i64 m ∧ s14 = .int .i64 0 ∧ w' = w)
  case first =>
    go_wp2_with fail
    all_goals go_meet
    · have e : m = 10 := by omega
      subst e
      exact ⟨rfl, rfl, rfl, rfl⟩
    · have e : m = n := by omega
      subst e
      exact ⟨rfl, rfl, rfl, rfl⟩
  case rest =>
    obtain ⟨rfl, rfl, rfl, rfl⟩ := hcut
    clear hm
    go_wp2_with fail
    go_loop [2, 14] (fun s2 s14 => LeadRel bs m s2 s14) (fun _ s14 => m - (intOf s14).toNat)
    case atStart => exact ⟨0, 0, 0, Nat.zero_le _, rfl, rfl, by decide, fun _ => ⟨rfl, by decide⟩, rfl⟩
    case round =>
      obtain ⟨i, acc, z, hi, rfl, rfl, hz64, hz, hl⟩ := hrel
      have HL := Lib.hid hl
      clear hl
      by_cases hlt : i < m
      · obtain ⟨b, off, rfl, hbl, hcell⟩ := HAT.out (by omega)
        obtain ⟨x, hx⟩ := ex_at (xs := bs) (k := i) (by have := HN.out; omega)
        have hck := hcell i x hx
        obtain ⟨rfl, hacc⟩ := hz (by omega)
        have hx256 := HS.out x (List.mem_of_getElem? hx)
        have hltz : (i : Int) < (m : Int) := by omega
        have hi10 : i < 10 := by omega
        have HD := Lib.hid (List.drop_eq_getElem_cons (show i < bs.length by have := HN.out; omega))
        have HXX : Hid (bs[i]'(by have := HN.out; omega) = x) := (List.getElem?_eq_some_iff.1 hx).2
        have hsh : IntKind.i64.wrap (7 * (i : Int)) = ((7 * i : Nat) : Int) := by rw [IntWalk.i64_in _ (by omega)]; omega
        have hmin : min (7 * i) 64 = 7 * i := by omega
        have HACC := Lib.hid hacc
        clear hcell hz hx hacc
        by_cases hx : 128 ≤ x
        · have hxz : (128 : Int) ≤ (x : Int) := by omega
          have hsub : IntKind.u8.wrap ((x : Int) - 128) = ((x - 128 : Nat) : Int) := by rw [IntKind.wrap_u8]; omega
          have HR := Lib.hid (lead_more (acc := z) (r := bs.drop (i + 1)) hi10 hx)
          have HW := Lib.hid (any_word z hz64 (((x - 128 : Nat) : Int) * 2 ^ (7 * i)))
          have HW2 := Lib.hid (fun h => read_word (y := x - 128) (i := i) HACC.out h)
          have HY := Lib.hid (show x - 128 < 128 by omega)
          have hyw : IntKind.u64.wrap ((x - 128 : Nat) : Int) = ((x - 128 : Nat) : Int) := by rw [IntKind.wrap_u64]; omega
          generalize x - 128 = y at *
          generalize 7 * i = s7 at *
          clear hx
          go_wp2_with fail
          go_round
          case measure => simp [intOf]; omega
          case rel =>
            obtain ⟨r, hr, e⟩ := HW.out
            refine ⟨i + 1, z + y * 128 ^ i, r, by omega, by go_num, by rw [e], hr, fun h => ?_, ?_⟩
            · have hroom := x_room HACC.out hi10 HY.out (fun h9 => by omega)
              have := HW2.out hroom
              rw [e] at this
              exact ⟨by omega, acc_more HACC.out HY.out⟩
            · rw [← HR.out, ← HXX.out, ← HD.out]
              exact HL.out
        · have hx128 : x < 128 := by omega
          have hxz : ¬ (128 : Int) ≤ (x : Int) := by omega
          by_cases hbad : (0 < i ∧ x = 0) ∨ (i = 9 ∧ 1 < x)
          · have HR := Lib.hid (show lead 0 0 bs = (0, 0) by
              rw [← HL.out, HD.out, HXX.out]
              exact lead_bad hi10 hx128 hbad)
            generalize lead 0 0 bs = R at *
            have HRR := Lib.hid HR.out
            clear HR HL HD HXX HM HN HACC hmin hsh
            rcases hbad with ⟨h0, h1⟩ | ⟨h0, h1⟩
            · subst h1
              have h0z : (0 : Int) < (i : Int) := by omega
              go_wp2_with fail
              all_goals
                go_ret2
                rw [HRR.out]
                exact ⟨rfl, rfl⟩
            · have h0z : (0 : Int) < (i : Int) := by omega
              have h1z : (1 : Int) < (x : Int) := by omega
              have e9 : ((i : Int) == 9) = true := by simp; omega
              have ex : ((x : Int) == 0) = false := by simp; omega
              clear h0
              go_wp2_with fail
              all_goals
                go_ret2
                rw [HRR.out]
                exact ⟨rfl, rfl⟩
          · have HR := Lib.hid (show lead 0 0 bs = (z + x * 128 ^ i, i + 1) by
              rw [← HL.out, HD.out, HXX.out]
              exact lead_last hi10 hx128 hbad)
            have hroom := x_room HACC.out hi10 hx128 (fun h9 => by omega)
            have hw := read_word HACC.out hroom
            have hxw : IntKind.u64.wrap (x : Int) = (x : Int) := by rw [IntKind.wrap_u64]; omega
            generalize z + x * 128 ^ i = N at *
            generalize 7 * i = s7 at *
            generalize lead 0 0 bs = R at *
            have HRR := Lib.hid HR.out
            have HW := Lib.hid hw
            clear HR HL HD HXX HM HN HACC hw
            by_cases h0 : i = 0
            · have h0z : ¬ (0 : Int) < (i : Int) := by omega
              have e9 : ((i : Int) == 9) = false := by simp; omega
              clear h0 hbad
              go_wp2_with fail
              all_goals
                go_ret2
                rw [HRR.out]
                exact ⟨by rw [HW.out]; rfl, rfl⟩
            · have h0z : (0 : Int) < (i : Int) := by omega
              have hx0 : ¬ x = 0 := fun e => hbad (.inl ⟨by omega, e⟩)
              have ex : ((x : Int) == 0) = false := by simp; omega
              by_cases h9 : i = 9
              · have h1z : ¬ (1 : Int) < (x : Int) := fun h => hbad (.inr ⟨h9, by omega⟩)
                have e9 : ((i : Int) == 9) = true := by simp; omega
                clear h0 hbad h9 hx0
                go_wp2_with fail
                all_goals
                  go_ret2
                  rw [HRR.out]
                  exact ⟨by rw [HW.out]; rfl, rfl⟩
              · have e9 : ((i : Int) == 9) = false := by simp; omega
                clear h0 hbad h9 hx0
                go_wp2_with fail
                all_goals
                  go_ret2
                  rw [HRR.out]
                  exact ⟨by rw [HW.out]; rfl, rfl⟩
      · have HR := Lib.hid (show lead 0 0 bs = (0, 0) by
          rw [← HL.out]
          by_cases h10 : i < 10
          · have : i = n := by have := HM.out (by omega); omega
            rw [List.drop_of_length_le (by have := HN.out; omega)]
            exact lead_nil _ _
          · exact lead_ten (by omega) _)
        have hltz : ¬ (i : Int) < (m : Int) := by omega
        generalize lead 0 0 bs = R at *
        have HRR := Lib.hid HR.out
        clear HR HL hz
        go_wp2_with fail
        go_ret2
        rw [HRR.out]
        exact ⟨rfl, rfl⟩
end Go.Proofs.Ytaffcpjhaacadaa
