/-
  The document's bytes of a number, and of bytes with numbers behind them.
  Conditions: no more than 1000 bytes and 200 numbers.
-/
import Derived.Test.YtaffcpjhaacadaaPut
set_option linter.unusedVariables false
namespace Go.Proofs.Ytaffcpjhaacadaa
open Go.RowKit

set_option maxRecDepth 100000 in
set_option maxHeartbeats 1000000 in
theorem refNum_any : ∀ (f n : Nat) (w : World), n ≤ f → n < 18446744073709551616 → Calls Try.prog 24 #[.int .u64 n] w (RetO w.heap.size (enc n) w) := by
  intro f
  induction f with
  | zero =>
    intro n w hf hn
    have : n = 0 := by omega
    subst this
    have HU := Lib.hid (lit_own w [0] (by simp) (by simp) w.heap.size (Nat.le_refl _))
    have HB := Lib.hid (show Below w.heap.size w (w.alloc (.cells #[.int .u8 0] 5)) from (Below.refl _ _).alloc (Nat.le_refl _) _)
    rw [enc_small (by decide)]
    go_enter Try.func24, Try.ntmps24
    go_wp2
    go_ret
    exact ⟨_, rfl, HU.out, HB.out⟩
  | succ f ih =>
    intro n w hf hn
    by_cases hlt : 128 ≤ n
    · have HI := Lib.hid (fun W => ih (n / 128) W (by omega) (by omega))
      rw [enc_great hlt]
      have hmod : ((n : Int)).tmod 128 = ((n % 128 : Nat) : Int) := by rw [Int.tmod_eq_emod_of_nonneg (by omega)]; omega
      have hdiv : ((n : Int)).tdiv 128 = ((n / 128 : Nat) : Int) := by rw [Int.tdiv_eq_ediv_of_nonneg (by omega)]; omega
      have hlz : ¬ (n : Int) < 128 := by omega
      have hd : n % 128 < 128 := by omega
      have hq : n / 128 < n := by omega
      have HL := Lib.hid (enc_ten (n := n / 128) (by omega))
      generalize n % 128 = d at *
      generalize n / 128 = q at *
      have hx : 128 + d < 256 := by omega
      have hw2 : IntKind.u64.wrap (128 + (d : Int)) = ((128 + d : Nat) : Int) := by rw [IntKind.wrap_u64]; omega
      generalize 128 + d = x at *
      have hw3 : IntKind.u8.wrap (x : Int) = (x : Int) := by rw [IntKind.wrap_u8]; omega
      have HU := Lib.hid (lit_own w [x] (by simpa using hx) (by simp) w.heap.size (Nat.le_refl _))
      have hb0 : Below w.heap.size w (w.alloc (.cells #[.int .u8 x] 5)) := (Below.refl _ _).alloc (Nat.le_refl _) _
      have HB0 := Lib.hid hb0
      clear hx hd ih hb0
      go_enter Try.func24, Try.ntmps24
      go_wp2_with fail
      refine (HI.out _).mono ?_
      rintro e w1 ⟨v1, rfl, hown1, hb1⟩
      have HY := Lib.hid hown1.bytes
      have HU1 := Lib.hid (HU.out.keep hb1)
      have HB1 := Lib.hid (HB0.out.trans (hb1.mono (by simp)))
      have hsz := HB1.out.size
      clear hown1 hb1 HU HB0
      go_wp2_with (at_builtin; refine wpList_append_bytes rfl _ _ 25 rfl w.heap.size Try.underlying25 Try.infoByte _ [x] rfl HU1.out _ (enc q) rfl HY.out (by have := HL.out; simp; omega) hsz ?_)
      intro v2 w2 hown2 hb2
      have HO2 := Lib.hid hown2
      have HB2 := Lib.hid (HB1.out.trans hb2)
      clear hown2 hb2
      go_wp2
      go_ret
      exact ⟨_, rfl, HO2.out, HB2.out⟩
    · have HU := Lib.hid (lit_own w [n] (by simp; omega) (by simp) w.heap.size (Nat.le_refl _))
      have HB := Lib.hid (show Below w.heap.size w (w.alloc (.cells #[.int .u8 n] 5)) from (Below.refl _ _).alloc (Nat.le_refl _) _)
      rw [enc_small (by omega)]
      have hlz : (n : Int) < 128 := by omega
      have hw1 : IntKind.u8.wrap (n : Int) = (n : Int) := by rw [IntKind.wrap_u8]; omega
      clear ih
      go_enter Try.func24, Try.ntmps24
      go_wp2
      go_ret
      exact ⟨_, rfl, HU.out, HB.out⟩

def RefPutRel (xs l : List Nat) (w : World) (g : Nat) (s5 s6 : Value) (wr : World) : Prop :=
  ∃ k : Nat, k ≤ l.length ∧ g = l.length - k ∧ s6 = .int .i64 k ∧ Below w.heap.size w wr ∧ Own wr w.heap.size s5 (xs ++ encs (l.take k))
end Go.Proofs.Ytaffcpjhaacadaa
