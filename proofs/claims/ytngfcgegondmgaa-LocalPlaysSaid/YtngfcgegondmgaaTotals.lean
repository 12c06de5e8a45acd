/-
  Total of the program and of the document; two slices that read alike.
  Conditions: the slices read as wants of ints.
-/
import Derived.Test.YtngfcgegondmgaaUnits
import Derived.Test.YtngfcgegondmgaaDelete
set_option linter.unusedVariables false
namespace Go.Proofs.Ytngfcgegondmgaa
open Go.RowKit

def TotRel (n : Nat) (ps : List Sp) (R : Option Int) (w : World) (gg : Nat) (s4 s11 : Value) (wr : World) : Prop :=
  ∃ (i : Nat) (t : Int), i ≤ n ∧ gg = n - i ∧ s11 = .int .i64 i ∧ s4 = .int .i64 t ∧ Below w.heap.size w wr ∧ totL t (ps.drop i) = R ∧ -9223372036854775808 ≤ t ∧ t ≤ 9223372036854775807

set_option maxRecDepth 100000 in
set_option maxHeartbeats 2000000 in
theorem total_any (v : Value) (ps : List Sp) (w : World) (h : SpansAt w v ps) (hi : IntsS ps) :
    Calls Try.prog 25 #[v] w (RetB (.tuple #[.int .i64 (sumV (totT ps)), .int .i64 (sumE (totT ps))]) w) := by
  obtain ⟨A, c, rfl, hc1, hlen, hc2, hat⟩ := h
  have HAT := Lib.hid hat
  have HI := Lib.hid hi
  obtain ⟨R, hR⟩ : ∃ R, totT ps = R := ⟨_, rfl⟩
  have HR := Lib.hid hR
  rw [hR]
  generalize hn : ps.length = n at *
  have HN := Lib.hid hn
  clear hat hn hR hi
  go_enter Try.func25, Try.ntmps25
  go_wp2_with fail
  go_loopg [4, 6, 7, 8, 11] n (fun gg s4 _ _ _ s11 wr => TotRel n ps R w gg s4 s11 wr)
  case atStart => exact ⟨0, 0, Nat.zero_le _, by omega, rfl, rfl, Below.refl _ _, HR.out, by decide, by decide⟩
  case round =>
    obtain ⟨i, t, hin, hgg, rfl, rfl, hbw, htot, ht1, ht2⟩ := hrel
    have HG := Lib.hid hgg
    have HB := Lib.hid hbw
    have HT := Lib.hid htot
    have HB1 := Lib.hid (And.intro ht1 ht2)
    have hsz := hbw.size
    clear hgg hbw htot
    by_cases hlt : i < n
    · have hltz : (i : Int) < (n : Int) := by omega
      obtain ⟨b, off, hA, hbl, hcell⟩ := HAT.out (by omega)
      subst hA
      obtain ⟨y, hy⟩ := ex_at (xs := ps) (k := i) (by rw [HN.out]; exact hlt)
      obtain ⟨c1, c2⟩ := (hcell i y hy).keep HB.out hbl
      obtain ⟨_, b1, b2⟩ := HI.out.at_ hy
      have HY := Lib.hid (drop_of hy)
      have hadd := fun W => add_any t y.2 ht1 ht2 b1 b2 W
      cases ho : addO t y.2 with
      | none =>
        rw [ho] at hadd
        have HADD : Hid (∀ W, Calls Try.prog 37 #[.int .i64 t, .int .i64 y.2] W (Ret (.tuple #[.int .i64 0, .int .i64 5]) W)) := hadd
        have HRN : Hid (R = none) := by
          have := HT.out
          rw [HY.out, totL_none ho] at this
          exact this.symm
        obtain ⟨y1, y2⟩ := y
        simp only at c1 c2 HADD
        clear hcell hy hadd ho b1 b2 ht1 ht2
        go_wp2_with (go_at_call 37; refine (HADD.out _).mono ?_; rintro e w' ⟨rfl, rfl⟩)
        go_returns
        exact ⟨by rw [HRN.out]; rfl, HB.out.alloc hsz _⟩
      | some t' =>
        rw [ho] at hadd
        have HADD : Hid (∀ W, Calls Try.prog 37 #[.int .i64 t, .int .i64 y.2] W (Ret (.tuple #[.int .i64 t', .int .i64 0]) W)) := hadd
        have HRN : Hid (totL t' (ps.drop (i + 1)) = R) := by
          have := HT.out
          rw [HY.out, totL_some ho] at this
          exact this
        have HTI := Lib.hid (addO_in ho)
        obtain ⟨y1, y2⟩ := y
        simp only at c1 c2 HADD
        clear hcell hy hadd ho b1 b2 ht1 ht2
        go_wp2_with (go_at_call 37; refine (HADD.out _).mono ?_; rintro e w' ⟨rfl, rfl⟩)
        go_roundg (n - (i + 1))
        case measure => have := HG.out; omega
        case rel => exact ⟨i + 1, t', by omega, rfl, by go_num, rfl, HB.out.alloc hsz _, HRN.out, HTI.out.1, HTI.out.2⟩
    · have hin' : i = n := by omega
      subst hin'
      have hltz : ¬ (i : Int) < (i : Int) := by omega
      have HRN : Hid (R = some t) := by
        have := HT.out
        rw [List.drop_eq_nil_of_le (by rw [HN.out]; exact Nat.le_refl _)] at this
        exact this.symm
      clear ht1 ht2
      go_wp2
      go_returns
      exact ⟨by rw [HRN.out]; rfl, HB.out⟩

set_option maxRecDepth 100000 in
set_option maxHeartbeats 2000000 in
theorem refTotal_any (v : Value) (ps : List Sp) (w : World) (h : SpansAt w v ps) (hi : IntsS ps) :
    Calls Try.prog 18 #[v] w (RetB (.tuple #[.int .i64 (sumV (totT ps)), .bool (sumB (totT ps))]) w) := by
  obtain ⟨A, c, rfl, hc1, hlen, hc2, hat⟩ := h
  have HAT := Lib.hid hat
  have HI := Lib.hid hi
  obtain ⟨R, hR⟩ : ∃ R, totT ps = R := ⟨_, rfl⟩
  have HR := Lib.hid hR
  rw [hR]
  generalize hn : ps.length = n at *
  have HN := Lib.hid hn
  clear hat hn hR hi
  go_enter Try.func18, Try.ntmps18
  go_wp2_with fail
  go_loopg [4, 5, 6, 7] n (fun gg s4 s5 _ _ wr => TotRel n ps R w gg s4 s5 wr)
  case atStart => exact ⟨0, 0, Nat.zero_le _, by omega, rfl, rfl, Below.refl _ _, HR.out, by decide, by decide⟩
  case round =>
    obtain ⟨i, t, hin, hgg, rfl, rfl, hbw, htot, ht1, ht2⟩ := hrel
    have HG := Lib.hid hgg
    have HB := Lib.hid hbw
    have HT := Lib.hid htot
    have hsz := hbw.size
    clear hgg hbw htot
    by_cases hlt : i < n
    · have hltz : (i : Int) < (n : Int) := by omega
      obtain ⟨b, off, hA, hbl, hcell⟩ := HAT.out (by omega)
      subst hA
      obtain ⟨y, hy⟩ := ex_at (xs := ps) (k := i) (by rw [HN.out]; exact hlt)
      obtain ⟨c1, c2⟩ := (hcell i y hy).keep HB.out hbl
      obtain ⟨_, b1, b2⟩ := HI.out.at_ hy
      have HY := Lib.hid (drop_of hy)
      have hadd := fun W => refAdd_any t y.2 ht1 ht2 b1 b2 W
      cases ho : addO t y.2 with
      | none =>
        rw [ho] at hadd
        have HADD : Hid (∀ W, Calls Try.prog 34 #[.int .i64 t, .int .i64 y.2] W (Ret (.tuple #[.int .i64 0, .bool false]) W)) := hadd
        have HRN : Hid (R = none) := by
          have := HT.out
          rw [HY.out, totL_none ho] at this
          exact this.symm
        obtain ⟨y1, y2⟩ := y
        simp only at c1 c2 HADD
        clear hcell hy hadd ho b1 b2 ht1 ht2
        go_wp2_with (go_at_call 34; refine (HADD.out _).mono ?_; rintro e w' ⟨rfl, rfl⟩)
        go_returns
        exact ⟨by rw [HRN.out]; rfl, HB.out⟩
      | some t' =>
        rw [ho] at hadd
        have HADD : Hid (∀ W, Calls Try.prog 34 #[.int .i64 t, .int .i64 y.2] W (Ret (.tuple #[.int .i64 t', .bool true]) W)) := hadd
        have HRN : Hid (totL t' (ps.drop (i + 1)) = R) := by
          have := HT.out
          rw [HY.out, totL_some ho] at this
          exact this
        have HTI := Lib.hid (addO_in ho)
        obtain ⟨y1, y2⟩ := y
        simp only at c1 c2 HADD
        clear hcell hy hadd ho b1 b2 ht1 ht2
        go_wp2_with (go_at_call 34; refine (HADD.out _).mono ?_; rintro e w' ⟨rfl, rfl⟩)
        go_roundg (n - (i + 1))
        case measure => have := HG.out; omega
        case rel => exact ⟨i + 1, t', by omega, rfl, by go_num, rfl, HB.out, HRN.out, HTI.out.1, HTI.out.2⟩
    · have hin' : i = n := by omega
      subst hin'
      have hltz : ¬ (i : Int) < (i : Int) := by omega
      have HRN : Hid (R = some t) := by
        have := HT.out
        rw [List.drop_eq_nil_of_le (by rw [HN.out]; exact Nat.le_refl _)] at this
        exact this.symm
      clear ht1 ht2
      go_wp2
      go_returns
      exact ⟨by rw [HRN.out]; rfl, HB.out⟩
end Go.Proofs.Ytngfcgegondmgaa
