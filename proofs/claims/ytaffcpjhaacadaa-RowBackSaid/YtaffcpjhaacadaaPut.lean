/-
  bytes.Clone; the program's Put: bytes, and numbers' bytes behind them.
  Conditions: no more than 1000 bytes and 200 numbers.
-/
import Derived.Test.YtaffcpjhaacadaaNum
import Derived.Lib.SliceRun
set_option linter.unusedVariables false
namespace Go.Proofs.Ytaffcpjhaacadaa
open Go.RowKit

theorem empty_own (W : World) (base : Nat) (hb : base ≤ W.heap.size) : Own (W.alloc (.cells #[] 5)) base (.slice (some ⟨W.heap.size, 0, none⟩) 0 0) [] :=
  lit_own W [] (fun x h => by cases h) (by simp) base hb

set_option maxRecDepth 100000 in
set_option maxHeartbeats 1000000 in
theorem clone_any (v : Value) (xs : List Nat) (w : World) (hl : xs.length ≤ 900000) (hv : BytesAt w v xs) :
    Calls Try.prog 35 #[v] w (RetO w.heap.size xs w) := by
  have HV := Lib.hid hv
  obtain ⟨A, c, rfl, h1, h2, h3, h4, h5⟩ := hv
  have q22 : ∀ (w : World) (a : Option Addr) (n c n' c' : Nat), (binOp .eql 25 (.slice a n c) (.slice none n' c')).run Try.prog w = .ok (.bool a.isNone) w := fun w a n c n' c' => Lib.run_eql_slice_nil w _ _ a n c n' c' Try.underlying25
  rcases A with _ | a
  · have : xs = [] := by
      rcases Nat.eq_zero_or_pos xs.length with h | h
      · exact List.eq_nil_of_length_eq_zero h
      · obtain ⟨b, off, e, _⟩ := h5 h; cases e
    subst this
    clear h5
    go_enter Try.func35, Try.ntmps35
    go_wp2
    go_ret
    exact ⟨_, rfl, Own.nil _ _, Below.refl _ _⟩
  · have HE := Lib.hid (empty_own w w.heap.size (Nat.le_refl _))
    have hb : Below w.heap.size w (w.alloc (.cells #[] 5)) := (Below.refl _ _).alloc (Nat.le_refl _) _
    have HV2 := Lib.hid (HV.out.keep hb)
    have HB0 := Lib.hid hb
    have HL := Lib.hid hl
    generalize hn : xs.length = n at *
    have HN := Lib.hid hn
    clear h5 h4 hb hl hn
    go_enter Try.func35, Try.ntmps35
    go_wp2_with (at_builtin; refine wpList_append_bytes rfl _ _ 25 rfl w.heap.size Try.underlying25 Try.infoByte _ [] rfl HE.out _ xs rfl HV2.out (by have := HL.out; have := HN.out; simp; omega) (by simp) ?_)
    intro v2 w2 hown2 hb2
    have HO2 := Lib.hid hown2
    have HB2 := Lib.hid (HB0.out.trans hb2)
    clear hown2 hb2
    go_wp2
    go_ret
    exact ⟨_, rfl, HO2.out, HB2.out⟩

def PutRel (xs l : List Nat) (w : World) (g : Nat) (s5 s12 : Value) (wr : World) : Prop :=
  ∃ k : Nat, k ≤ l.length ∧ g = l.length - k ∧ s12 = .int .i64 k ∧ Below w.heap.size w wr ∧ Own wr w.heap.size s5 (xs ++ encs (l.take k))

theorem take_small {l : List Nat} (h : ∀ x ∈ l, x < 18446744073709551616) (k : Nat) : (encs (l.take k)).length ≤ l.length * 10 := by
  have h1 := encs_length (l.take k) (fun n hn => h n (List.mem_of_mem_take hn))
  have h2 : (l.take k).length ≤ l.length := by rw [List.length_take]; exact Nat.min_le_right _ _
  omega

set_option maxRecDepth 100000 in
set_option maxHeartbeats 1000000 in
theorem put_any (v u : Value) (xs l : List Nat) (w : World) (hv : BytesAt w v xs) (hu : WordsAt w u l) (hx : xs.length ≤ 1000) (hll : l.length ≤ 80000) :
    Calls Try.prog 21 #[v, u] w (RetO w.heap.size (xs ++ encs l) w) := by
  have HC := Lib.hid (clone_any v xs w (by omega) hv)
  obtain ⟨A, c, rfl, h1, h2, h3, h4, h5⟩ := hu
  have HAT := Lib.hid h5
  have HX := Lib.hid hx
  have HS := Lib.hid h4
  clear h5 h4 hx hv
  go_enter Try.func21, Try.ntmps21
  go_wp2_with fail
  refine HC.out.mono ?_
  rintro e w1 ⟨v1, rfl, hown1, hb1⟩
  have HO1 := Lib.hid hown1
  have HB1 := Lib.hid hb1
  clear hown1 hb1
  go_wp2_with fail
  go_loopg [5, 12] l.length (fun g s5 s12 wr => PutRel xs l w g s5 s12 wr)
  case atStart => exact ⟨0, Nat.zero_le _, rfl, rfl, HB1.out, by simpa [encs] using HO1.out⟩
  case round =>
    obtain ⟨k, hk, hg, rfl, hbw, hown⟩ := hrel
    have HG := Lib.hid hg
    have HB := Lib.hid hbw
    have HO := Lib.hid hown
    have hsz := hbw.size
    clear hg hbw hown
    by_cases hlt : k < l.length
    · obtain ⟨b, off, hA, hbl, hcell⟩ := HAT.out (by omega)
      subst hA
      obtain ⟨y, hy⟩ := ex_at hlt
      have hck := (HB.out.cell (p := ⟨b, off + k, none⟩) hbl).trans (hcell k y hy)
      have hys : y < 18446744073709551616 := HS.out y (List.mem_of_getElem? hy)
      have HT := Lib.hid (encs_take hy)
      have HA := Lib.hid (append_any _ (xs ++ encs (l.take k)) y w.heap.size wr hys (by have := take_small HS.out k; have := HX.out; rw [List.length_append]; omega) hsz HO.out)
      have hltz : (k : Int) < (l.length : Int) := by omega
      generalize hn : l.length = n at *
      have HN := Lib.hid hn
      clear hcell hy hn hys
      go_wp2_with fail
      refine HA.out.mono ?_
      rintro e w2 ⟨v2, rfl, hown2, hb2⟩
      have HO2 := Lib.hid hown2
      have HB2 := Lib.hid (HB.out.trans hb2)
      clear hown2 hb2
      go_wp2_with fail
      go_roundg (n - (k + 1))
      case measure => have := HG.out; omega
      case rel =>
        refine ⟨k + 1, by have := HN.out; omega, by rw [HN.out], by go_num, HB2.out, ?_⟩
        rw [HT.out, ← List.append_assoc]
        exact HO2.out
    · have hend : k = l.length := by omega
      have hltz : ¬ (k : Int) < (l.length : Int) := by omega
      have HF := Lib.hid (show Own wr w.heap.size u5 (xs ++ encs l) by
        have h := HO.out
        rw [hend, List.take_length] at h
        exact h)
      clear hend
      go_wp2
      go_ret
      exact ⟨_, rfl, HF.out, HB.out⟩
end Go.Proofs.Ytaffcpjhaacadaa
