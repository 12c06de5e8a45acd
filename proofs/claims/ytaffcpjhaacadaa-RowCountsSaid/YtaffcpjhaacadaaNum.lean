/-
  The program's bytes of a number: appended to bytes of the call's own, and alone.
  Conditions: the number is of its kind.
-/
import Derived.Test.YtaffcpjhaacadaaEnc
set_option linter.unusedVariables false
namespace Go.Proofs.Ytaffcpjhaacadaa
open Go.RowKit

def AppRel (xs : List Nat) (n base : Nat) (w : World) (g : Nat) (s0 s1 : Value) (wr : World) : Prop :=
  ∃ (m : Nat) (pre : List Nat), g = m ∧ m < 18446744073709551616 ∧ s1 = .int .u64 m ∧ pre ++ enc m = enc n ∧ Below base w wr ∧ Own wr base s0 (xs ++ pre)

set_option maxRecDepth 100000 in
set_option maxHeartbeats 1000000 in
theorem append_any (v : Value) (xs : List Nat) (n base : Nat) (w : World) (hn : n < 18446744073709551616) (hl : xs.length ≤ 900000) (hb : base ≤ w.heap.size) (hv : Own w base v xs) :
    Calls Try.prog 36 #[v, .int .u64 n] w (RetO base (xs ++ enc n) w) := by
  have HV := Lib.hid hv
  have HN10 := Lib.hid (enc_ten hn)
  clear hv
  go_enter Try.func36, Try.ntmps36
  go_wp2_with fail
  go_loopg [0, 1] n (fun g s0 s1 wr => AppRel xs n base w g s0 s1 wr)
  case atStart => exact ⟨n, [], rfl, hn, rfl, rfl, Below.refl _ _, by simpa using HV.out⟩
  case round =>
    obtain ⟨m, pre, hg, hm, rfl, hpre, hbw, hown⟩ := hrel
    have HG := Lib.hid hg
    have HP := Lib.hid hpre
    have HB := Lib.hid hbw
    have HO := Lib.hid hown
    have hsz := hbw.size
    have hbr : base ≤ wr.heap.size := by omega
    have HPL : Hid (pre.length ≤ 10) := by
      have h1 := HN10.out
      rw [← hpre, List.length_append] at h1
      show pre.length ≤ 10
      omega
    clear hg hpre hbw hown
    have hmod : ((m : Int)).tmod 128 = ((m % 128 : Nat) : Int) := by rw [Int.tmod_eq_emod_of_nonneg (by omega)]; omega
    have hdiv : ((m : Int)) / 128 = ((m / 128 : Nat) : Int) := by omega
    have HD := Lib.hid hdiv
    clear hdiv
    by_cases hlt : 128 ≤ m
    · have HE := Lib.hid (enc_great hlt)
      have hlz : (128 : Int) ≤ (m : Int) := by omega
      have hd : m % 128 < 128 := by omega
      have hq : m / 128 < m := by omega
      generalize m % 128 = d at *
      generalize m / 128 = q at *
      have hw1 : IntKind.u8.wrap (d : Int) = (d : Int) := by rw [IntKind.wrap_u8]; omega
      have hx : 128 + d < 256 := by omega
      have hw2 : IntKind.u8.wrap ((d : Int) + 128) = ((128 + d : Nat) : Int) := by rw [IntKind.wrap_u8]; omega
      generalize 128 + d = x at *
      have HU : Hid (BytesAt (wr.alloc (.cells #[.int .u8 x] 5)) (.slice (some ⟨wr.heap.size, 0, none⟩) 1 1) [x]) :=
        (lit_own wr [x] (by simpa using hx) (by simp) 0 (Nat.zero_le _)).bytes
      have HX := Lib.hid hx
      clear hx hd
      go_wp2_with (at_builtin; refine wpList_append_bytes rfl _ _ 25 rfl base Try.underlying25 Try.infoByte _ (xs ++ pre) rfl (HO.out.alloc _) _ [x] rfl HU.out (by have := HPL.out; simp; omega) (by simp; omega) ?_)
      intro v2 w2 hown2 hb2
      have HB2 := Lib.hid ((HB.out.alloc hbr _).trans hb2)
      have HO2 := Lib.hid hown2
      clear hown2 hb2
      go_wp2
      go_roundg q
      case measure => have := HG.out; omega
      case rel =>
        refine ⟨q, pre ++ [x], rfl, by omega, by rw [HD.out], ?_, HB2.out, ?_⟩
        · rw [← HP.out, HE.out]; simp
        · simpa using HO2.out
    · have HE := Lib.hid (enc_small (n := m) (by omega))
      have hlz : ¬ (128 : Int) ≤ (m : Int) := by omega
      have hw1 : IntKind.u8.wrap (m : Int) = (m : Int) := by rw [IntKind.wrap_u8]; omega
      have HU : Hid (BytesAt (wr.alloc (.cells #[.int .u8 m] 5)) (.slice (some ⟨wr.heap.size, 0, none⟩) 1 1) [m]) :=
        (lit_own wr [m] (by simp; omega) (by simp) 0 (Nat.zero_le _)).bytes
      go_wp2_with (at_builtin; refine wpList_append_bytes rfl _ _ 25 rfl base Try.underlying25 Try.infoByte _ (xs ++ pre) rfl (HO.out.alloc _) _ [m] rfl HU.out (by have := HPL.out; simp; omega) (by simp; omega) ?_)
      intro v2 w2 hown2 hb2
      have HB2 := Lib.hid ((HB.out.alloc hbr _).trans hb2)
      have HO2 := Lib.hid hown2
      clear hown2 hb2
      go_wp2
      go_ret
      refine ⟨_, rfl, ?_, HB2.out⟩
      have := HO2.out
      rw [← HE.out, HP.out] at this
      exact this
end Go.Proofs.Ytaffcpjhaacadaa
