/-
  The document's bytes of a number, and of bytes with numbers behind them.
  Conditions: no more than 1000 bytes and 200 numbers.
-/
import Derived.Test.YtjcnkpghbmphfaaPut
set_option linter.unusedVariables false
namespace Go.Proofs.Ytjcnkpghbmphfaa
open Go.RowKit

set_option maxRecDepth 100000 in
set_option maxHeartbeats 1000000 in
theorem refNum_any : ∀ (f n : Nat) (w : World), n ≤ f → n < 18446744073709551616 → Calls Try.prog 9 #[.int .u64 n] w (RetO w.heap.size (enc n) w) := by
  intro f
  induction f with
  | zero =>
    intro n w hf hn
    have : n = 0 := by omega
    subst this
    have HU := Lib.hid (lit_own w [0] (by simp) (by simp) w.heap.size (Nat.le_refl _))
    have HB := Lib.hid (show Below w.heap.size w (w.alloc (.cells #[.int .u8 0] 5)) from (Below.refl _ _).alloc (Nat.le_refl _) _)
    rw [enc_small (by decide)]
    go_enter Try.func9, Try.ntmps9
    go_wp2
    go_ret
    exact ⟨_, rfl, HU.out, HB.out⟩
  | succ f ih =>
    intro n w hf hn
    by_cases hlt : 128 ≤ n
    · have HI := Lib.hid (fun W => ih (n / 128) W (by omega) (by omega))
      rw [enc_great hlt]
      have hmod : ((n : Int)).tmod 128 = ((n % 128 : Nat) : Int) := by rw [Int.tmod_eq_emod_of_nonneg (by omega)]; omega
      have hdiv : ((n : Int)).tdiv 128 = ((n / 128 : Nat) : Int) := by rw [Int.tdiv_eq_ediv_of_nonneg (by omega)]; omega
      have hlz : ¬ (n : Int) < 128 := by omega
      have hd : n % 128 < 128 := by omega
      have hq : n / 128 < n := by omega
      have HL := Lib.hid (enc_ten (n := n / 128) (by omega))
      generalize n % 128 = d at *
      generalize n / 128 = q at *
      have hx : 128 + d < 256 := by omega
      have hw2 : IntKind.u64.wrap (128 + (d : Int)) = ((128 + d : Nat) : Int) := by rw [IntKind.wrap_u64]; omega
      generalize 128 + d = x at *
      have hw3 : IntKind.u8.wrap (x : Int) = (x : Int) := by rw [IntKind.wrap_u8]; omega
      have HU := Lib.hid (lit_own w [x] (by simpa using hx) (by simp) w.heap.size (Nat.le_refl _))
      have hb0 : Below w.heap.size w (w.alloc (.cells #[.int .u8 x] 5)) := (Below.refl _ _).alloc (Nat.le_refl _) _
      have HB0 := Lib.hid hb0
      clear hx hd ih hb0
      go_enter Try.func9, Try.ntmps9
      go_wp2_with fail
      refine (HI.out _).mono ?_
      rintro e w1 ⟨v1, rfl, hown1, hb1⟩
      have HY := Lib.hid hown1.bytes
      have HU1 := Lib.hid (HU.out.keep hb1)
      have HB1 := Lib.hid (HB0.out.trans (hb1.mono (by simp)))
      have hsz := HB1.out.size
      clear hown1 hb1 HU HB0
      go_wp2_with (at_builtin; refine wpList_append_bytes rfl _ _ 22 rfl w.heap.size Try.underlying22 Try.infoByte _ [x] rfl HU1.out _ (enc q) rfl HY.out (by have := HL.out; simp; omega) hsz ?_)
      intro v2 w2 hown2 hb2
      have HO2 := Lib.hid hown2
      have HB2 := Lib.hid (HB1.out.trans hb2)
      clear hown2 hb2
      go_wp2
      go_ret
      exact ⟨_, rfl, HO2.out, HB2.out⟩
    · have HU := Lib.hid (lit_own w [n] (by simp; omega) (by simp) w.heap.size (Nat.le_refl _))
      have HB := Lib.hid (show Below w.heap.size w (w.alloc (.cells #[.int .u8 n] 5)) from (Below.refl _ _).alloc (Nat.le_refl _) _)
      rw [enc_small (by omega)]
      have hlz : (n : Int) < 128 := by omega
      have hw1 : IntKind.u8.wrap (n : Int) = (n : Int) := by rw [IntKind.wrap_u8]; omega
      clear ih
      go_enter Try.func9, Try.ntmps9
      go_wp2
      go_ret
      exact ⟨_, rfl, HU.out, HB.out⟩

def RefPutRel (xs l : List Nat) (w : World) (g : Nat) (s5 s6 : Value) (wr : World) : Prop :=
  ∃ k : Nat, k ≤ l.length ∧ g = l.length - k ∧ s6 = .int .i64 k ∧ Below w.heap.size w wr ∧ Own wr w.heap.size s5 (xs ++ encs (l.take k))

set_option maxRecDepth 100000 in
set_option maxHeartbeats 1000000 in
theorem refPut_any (v u : Value) (xs l : List Nat) (w : World) (hv : BytesAt w v xs) (hu : WordsAt w u l) (hx : xs.length ≤ 1000) (hll : l.length ≤ 200) :
    Calls Try.prog 11 #[v, u] w (RetO w.heap.size (xs ++ encs l) w) := by
  have HE := Lib.hid (empty_own w w.heap.size (Nat.le_refl _))
  have hb : Below w.heap.size w (w.alloc (.cells #[] 5)) := (Below.refl _ _).alloc (Nat.le_refl _) _
  have HV2 := Lib.hid (hv.keep hb)
  have HB0 := Lib.hid hb
  have HX := Lib.hid hx
  obtain ⟨A, c, rfl, h1, h2, h3, h4, h5⟩ := hu
  have HAT := Lib.hid h5
  have HS := Lib.hid h4
  clear h5 h4 hx hv hb
  go_enter Try.func11, Try.ntmps11
  go_wp2_with (at_builtin; refine wpList_append_bytes rfl _ _ 22 rfl w.heap.size Try.underlying22 Try.infoByte _ [] rfl HE.out _ xs rfl HV2.out (by have := HX.out; simp; omega) (by simp) ?_)
  intro v1 w1 hown1 hb1
  have HO1 := Lib.hid hown1
  have HB1 := Lib.hid (HB0.out.trans hb1)
  clear hown1 hb1
  go_wp2_with fail
  go_loopg [5, 6] l.length (fun g s5 s6 wr => RefPutRel xs l w g s5 s6 wr)
  case atStart => exact ⟨0, Nat.zero_le _, rfl, rfl, HB1.out, by simpa [encs] using HO1.out⟩
  case round =>
    obtain ⟨k, hk, hg, rfl, hbw, hown⟩ := hrel
    have HG := Lib.hid hg
    have HB := Lib.hid hbw
    have HO := Lib.hid hown
    have hsz := hbw.size
    clear hg hbw hown
    by_cases hlt : k < l.length
    · obtain ⟨b, off, hA, hbl, hcell⟩ := HAT.out (by omega)
      subst hA
      obtain ⟨y, hy⟩ := ex_at hlt
      have hck := (HB.out.cell (p := ⟨b, off + k, none⟩) hbl).trans (hcell k y hy)
      have hys : y < 18446744073709551616 := HS.out y (List.mem_of_getElem? hy)
      have HT := Lib.hid (encs_take hy)
      have HA := Lib.hid (refNum_any y y wr (Nat.le_refl _) hys)
      have HL := Lib.hid (show (xs ++ encs (l.take k)).length + (enc y).length ≤ 1000000 by
        have := take_small HS.out k
        have := HX.out
        have := enc_ten hys
        rw [List.length_append]
        omega)
      have hltz : (k : Int) < (l.length : Int) := by omega
      generalize hn : l.length = n at *
      have HN := Lib.hid hn
      clear hcell hy hn hys
      go_wp2_with fail
      refine HA.out.mono ?_
      rintro e w2 ⟨v2, rfl, hown2, hb2⟩
      have HY := Lib.hid hown2.bytes
      have HO1' := Lib.hid (HO.out.keep hb2)
      have HB2 := Lib.hid (HB.out.trans (hb2.mono hsz))
      have hsz2 := HB2.out.size
      clear hown2 hb2
      go_wp2_with (at_builtin; refine wpList_append_bytes rfl _ _ 22 rfl w.heap.size Try.underlying22 Try.infoByte _ (xs ++ encs (l.take k)) rfl HO1'.out _ (enc y) rfl HY.out HL.out hsz2 ?_)
      intro v3 w3 hown3 hb3
      have HO3 := Lib.hid hown3
      have HB3 := Lib.hid (HB2.out.trans hb3)
      clear hown3 hb3
      go_wp2_with fail
      go_roundg (n - (k + 1))
      case measure => have := HG.out; omega
      case rel =>
        refine ⟨k + 1, by have := HN.out; omega, by rw [HN.out], by go_num, HB3.out, ?_⟩
        rw [HT.out]
        exact HO3.out
    · have hend : k = l.length := by omega
      have hltz : ¬ (k : Int) < (l.length : Int) := by omega
      have HF := Lib.hid (show Own wr w.heap.size u5 (xs ++ encs l) by
        have h := HO.out
        rw [hend, List.take_length] at h
        exact h)
      clear hend
      go_wp2
      go_ret
      exact ⟨_, rfl, HF.out, HB.out⟩
end Go.Proofs.Ytjcnkpghbmphfaa
