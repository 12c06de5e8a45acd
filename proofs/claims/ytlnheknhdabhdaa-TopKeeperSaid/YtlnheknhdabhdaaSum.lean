/-
  The checksum of the program and of the document.
  Conditions: the argument reads as bytes.
-/
import Derived.Test.YtlnheknhdabhdaaNums
import Derived.Test.YtlnheknhdabhdaaCrc
import Derived.Laws.BitsAllLaws
set_option linter.unusedVariables false
namespace Go.Proofs.Ytlnheknhdabhdaa
open Go.RowKit

theorem xor_u8 {a b : Nat} (ha : a < 256) (hb : b < 256) : bits BinOp.xor IntKind.u8 (a : Int) (b : Int) = ((a ^^^ b : Nat) : Int) := u8_xor_nat a b ha hb
theorem xor_i64 {a b : Nat} (ha : a < 256) (hb : b < 256) : bits BinOp.xor IntKind.i64 (a : Int) (b : Int) = ((a ^^^ b : Nat) : Int) := by
  have hx := xor_lt ha hb
  show IntKind.i64.wrap ((BitVec.ofInt 64 (a : Int) ^^^ BitVec.ofInt 64 (b : Int)).toNat : Int) = _
  rw [BitVec.toNat_xor, ofInt_u64 a (by omega), ofInt_u64 b (by omega), IntKind.wrap_i64]
  omega

def DblRel (r : Nat) (w : World) (g : Nat) (s0 s4 : Value) (wr : World) : Prop := ∃ k : Nat, k ≤ 8 ∧ g = 8 - k ∧ s0 = .int .u8 (dbls k r) ∧ s4 = .int .i64 k ∧ wr = w

set_option maxRecDepth 100000 in
set_option maxHeartbeats 1000000 in
theorem eight_any (r : Nat) (w : World) (hr : r < 256) : Calls Try.prog 28 #[.int .u8 r] w (Ret (.int .u8 (dbls 8 r)) w) := by
  go_enter Try.func28, Try.ntmps28
  go_wp2_with fail
  go_loopg [0, 4] 8 (fun g s0 s4 wr => DblRel r w g s0 s4 wr)
  case atStart => exact ⟨0, by omega, rfl, rfl, rfl, rfl⟩
  case round =>
    obtain ⟨k, hk, hg, rfl, rfl, rfl⟩ := hrel
    have HG := Lib.hid hg
    have hx := dbls_lt k r hr
    have HD := Lib.hid (show dbls (k + 1) r = dbl (dbls k r) from rfl)
    by_cases hlt : k < 8
    · have hkz : (k : Int) < 8 := by omega
      generalize dbls k r = x at *
      by_cases h1 : 128 ≤ x
      · have h1z : (128 : Int) ≤ (x : Int) := by omega
        have hy : 2 * x - 256 < 256 := by omega
        have hw : IntKind.u8.wrap ((x : Int) * 2) = ((2 * x - 256 : Nat) : Int) := by rw [IntKind.wrap_u8]; omega
        have HE := Lib.hid (dbl_great h1)
        have hxx := xor_u8 (a := 2 * x - 256) (b := 7) hy (by decide)
        generalize 2 * x - 256 = y at *
        generalize y ^^^ 7 = z at *
        have hxx' : bits BinOp.xor IntKind.u8 (y : Int) 7 = (z : Int) := hxx
        clear hg h1 hx hy hxx
        go_wp2_with fail
        go_roundg (8 - (k + 1))
        case measure => have := HG.out; omega
        case rel => exact ⟨k + 1, by omega, rfl, by rw [HD.out, HE.out], by go_num, rfl⟩
      · have h1z : ¬ (128 : Int) ≤ (x : Int) := by omega
        have hw : IntKind.u8.wrap ((x : Int) * 2) = ((2 * x : Nat) : Int) := by rw [IntKind.wrap_u8]; omega
        have HE := Lib.hid (dbl_small (r := x) (by omega))
        generalize 2 * x = y at *
        clear hg h1 hx
        go_wp2_with fail
        go_roundg (8 - (k + 1))
        case measure => have := HG.out; omega
        case rel => exact ⟨k + 1, by omega, rfl, by rw [HD.out, HE.out], by go_num, rfl⟩
    · have hk8 : k = 8 := by omega
      subst hk8
      clear hk hg hlt HG HD
      generalize dbls 8 r = x at *
      go_wp2_with fail
      go_ret
      exact ⟨rfl, rfl⟩

def SumRel (xs : List Nat) (w : World) (g : Nat) (s3 s8 : Value) (wr : World) : Prop := ∃ k : Nat, k ≤ xs.length ∧ g = xs.length - k ∧ s3 = .int .u8 (crc (xs.take k)) ∧ s8 = .int .i64 k ∧ wr = w

theorem bytes_all {W : World} {v : Value} {xs : List Nat} (h : BytesAt W v xs) : ∀ x ∈ xs, x < 256 := by obtain ⟨_, _, _, _, _, _, h, _⟩ := h; exact h
theorem take_all {xs : List Nat} (h : ∀ x ∈ xs, x < 256) (k : Nat) : ∀ x ∈ xs.take k, x < 256 := fun x hx => h x (List.mem_of_mem_take hx)

set_option maxRecDepth 100000 in
set_option maxHeartbeats 1000000 in
theorem sum_any (v : Value) (xs : List Nat) (w : World) (hv : BytesAt w v xs) : Calls Try.prog 12 #[v] w (Ret (.int .u8 (crc xs)) w) := by
  have HALL := Lib.hid (bytes_all hv)
  obtain ⟨A, c, rfl, h1, h2, h3, h4, h5⟩ := hv
  have HAT := Lib.hid h5
  clear h5 h4 h3
  go_enter Try.func12, Try.ntmps12
  go_wp2_with fail
  go_loopg [3, 8] xs.length (fun g s3 s8 wr => SumRel xs w g s3 s8 wr)
  case atStart => exact ⟨0, Nat.zero_le _, rfl, rfl, rfl, rfl⟩
  case round =>
    obtain ⟨k, hk, hg, rfl, rfl, rfl⟩ := hrel
    have HG := Lib.hid hg
    have hr := crc_lt (take_all HALL.out k)
    by_cases hlt : k < xs.length
    · obtain ⟨b, off, hA, hbl, hcell⟩ := HAT.out (by omega)
      subst hA
      obtain ⟨y, hy⟩ := ex_at hlt
      have hck := hcell k y hy
      have hys : y < 256 := HALL.out y (List.mem_of_getElem? hy)
      have HT := Lib.hid (crc_take hy)
      have hltz : (k : Int) < (xs.length : Int) := by omega
      generalize crc (xs.take k) = r at *
      have hxx := xor_u8 hr hys
      have HC := Lib.hid (fun W => eight_any (r ^^^ y) W (xor_lt hr hys))
      have HST := Lib.hid (stepT_eq r y)
      generalize r ^^^ y = z at *
      generalize hn : xs.length = n at *
      have HN := Lib.hid hn
      clear hcell hy hn hys hg hr
      go_wp2_with fail
      refine (HC.out _).mono ?_
      rintro e w1 ⟨rfl, rfl⟩
      go_wp2_with fail
      go_roundg (n - (k + 1))
      case measure => have := HG.out; omega
      case rel => exact ⟨k + 1, by have := HN.out; omega, by rw [HN.out], by rw [HT.out, HST.out], by go_num, rfl⟩
    · have hend : k = xs.length := by omega
      have hltz : ¬ (k : Int) < (xs.length : Int) := by omega
      have HF := Lib.hid (show crc (xs.take k) = crc xs by rw [hend, List.take_length])
      clear hend hg
      generalize crc (xs.take k) = r at *
      go_wp2_with fail
      go_ret
      exact ⟨ret_int (by rw [HF.out]), rfl⟩

def RefDblRel (r : Nat) (w : World) (g : Nat) (s3 s5 : Value) (wr : World) : Prop := ∃ k : Nat, k ≤ 8 ∧ g = 8 - k ∧ s3 = .int .i64 (dbls k r) ∧ s5 = .int .i64 k ∧ wr = w
def RefSumRel (xs : List Nat) (w : World) (g : Nat) (s3 s4 : Value) (wr : World) : Prop := ∃ k : Nat, k ≤ xs.length ∧ g = xs.length - k ∧ s3 = .int .i64 (crc (xs.take k)) ∧ s4 = .int .i64 k ∧ wr = w

set_option maxRecDepth 100000 in
set_option maxHeartbeats 1000000 in
theorem refSum_any (v : Value) (xs : List Nat) (w : World) (hv : BytesAt w v xs) : Calls Try.prog 13 #[v] w (Ret (.int .u8 (crc xs)) w) := by
  have HALL := Lib.hid (bytes_all hv)
  obtain ⟨A, c, rfl, h1, h2, h3, h4, h5⟩ := hv
  have HAT := Lib.hid h5
  clear h5 h4 h3
  go_enter Try.func13, Try.ntmps13
  go_wp2_with fail
  go_loopg [3, 4] xs.length (fun g s3 s4 wr => RefSumRel xs w g s3 s4 wr)
  case atStart => exact ⟨0, Nat.zero_le _, rfl, rfl, rfl, rfl⟩
  case round =>
    obtain ⟨k, hk, hg, rfl, rfl, rfl⟩ := hrel
    have HG := Lib.hid hg
    have hr := crc_lt (take_all HALL.out k)
    by_cases hlt : k < xs.length
    · obtain ⟨b, off, hA, hbl, hcell⟩ := HAT.out (by omega)
      subst hA
      obtain ⟨y, hy⟩ := ex_at hlt
      have hck := hcell k y hy
      have hys : y < 256 := HALL.out y (List.mem_of_getElem? hy)
      have HT := Lib.hid (crc_take hy)
      have hltz : (k : Int) < (xs.length : Int) := by omega
      have hkz : (0 : Int) ≤ (k : Int) := by omega
      generalize crc (xs.take k) = r at *
      have hxx := xor_i64 hr hys
      have hwy : wrap64 (y : Int) = (y : Int) := wrap64_small (by omega) (by omega)
      have hz := xor_lt hr hys
      have HST := Lib.hid (stepT_eq r y)
      generalize r ^^^ y = z at *
      generalize hn : xs.length = n at *
      have HN := Lib.hid hn
      clear hcell hy hn hys hg hr
      go_wp2_with fail
      clear hwy
      go_loopg [3, 5] 8 (fun g s3 s5 wr' => RefDblRel z wr g s3 s5 wr')
      case atStart => exact ⟨0, by omega, rfl, rfl, rfl, rfl⟩
      case round =>
        obtain ⟨j, hj, hg, rfl, rfl, rfl⟩ := hrel
        have HG2 := Lib.hid hg
        have hx := dbls_lt j z hz
        have HD := Lib.hid (show dbls (j + 1) z = dbl (dbls j z) from rfl)
        by_cases hlt8 : j < 8
        · have hjz : (j : Int) < 8 := by omega
          generalize dbls j z = x at *
          by_cases h1 : 128 ≤ x
          · have hw : wrap64 (2 * (x : Int)) = ((2 * x : Nat) : Int) := by rw [wrap64_small (by omega) (by omega)]; omega
            have h1z : (256 : Int) ≤ ((2 * x : Nat) : Int) := by omega
            have hm : ((2 * x : Nat) : Int).tmod 256 = ((2 * x - 256 : Nat) : Int) := by rw [Int.tmod_eq_emod_of_nonneg (by omega)]; omega
            have hy : 2 * x - 256 < 256 := by omega
            have HE := Lib.hid (dbl_great h1)
            have hxx2 := xor_i64 (a := 2 * x - 256) (b := 7) hy (by decide)
            generalize 2 * x - 256 = y2 at *
            generalize 2 * x = x2 at *
            generalize y2 ^^^ 7 = z2 at *
            have hxx' : bits BinOp.xor IntKind.i64 (y2 : Int) 7 = (z2 : Int) := hxx2
            clear hg h1 hx hy hxx2
            go_wp2_with fail
            go_roundg (8 - (j + 1))
            case measure => have := HG2.out; omega
            case rel => exact ⟨j + 1, by omega, rfl, by rw [HD.out, HE.out], by go_num, rfl⟩
          · have hw : wrap64 (2 * (x : Int)) = ((2 * x : Nat) : Int) := by rw [wrap64_small (by omega) (by omega)]; omega
            have h1z : ¬ (256 : Int) ≤ ((2 * x : Nat) : Int) := by omega
            have HE := Lib.hid (dbl_small (r := x) (by omega))
            generalize 2 * x = x2 at *
            clear hg h1 hx
            go_wp2_with fail
            go_roundg (8 - (j + 1))
            case measure => have := HG2.out; omega
            case rel => exact ⟨j + 1, by omega, rfl, by rw [HD.out, HE.out], by go_num, rfl⟩
        · have hk8 : j = 8 := by omega
          subst hk8
          clear hj hg hlt8 HG2 HD
          generalize dbls 8 z = x at *
          go_wp2_with fail
          go_roundg (n - (k + 1))
          case measure => have := HG.out; omega
          case rel => exact ⟨k + 1, by have := HN.out; omega, by rw [HN.out], by rw [HT.out, HST.out], by go_num, rfl⟩
    · have hend : k = xs.length := by omega
      have hltz : ¬ (k : Int) < (xs.length : Int) := by omega
      have HF := Lib.hid (show crc (xs.take k) = crc xs by rw [hend, List.take_length])
      clear hend hg
      generalize crc (xs.take k) = r at *
      have hw : IntKind.u8.wrap (r : Int) = (r : Int) := by rw [IntKind.wrap_u8]; omega
      clear hr
      go_wp2_with fail
      go_ret
      exact ⟨ret_int (by rw [HF.out]), rfl⟩
end Go.Proofs.Ytlnheknhdabhdaa
