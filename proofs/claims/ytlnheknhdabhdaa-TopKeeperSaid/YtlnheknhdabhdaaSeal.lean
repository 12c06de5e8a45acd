/-
  The record of a body, of the program and of the document.
  Conditions: the document's: the body has 1 to 120 bytes.
-/
import Derived.Test.YtlnheknhdabhdaaFirst
set_option linter.unusedVariables false
namespace Go.Proofs.Ytlnheknhdabhdaa
open Go.RowKit

/-- What Seal answers: a row of bytes of its own, and the error. -/
def RetSeal (xs : List Nat) (w : World) (e : Ending) (w' : World) : Prop := ∃ v, e = .returned (.tuple #[v, .int .i64 0]) ∧ Own w' w.heap.size v xs ∧ Below w.heap.size w w'

theorem seal_bad (v : Value) (xs : List Nat) (w : World) (hv : BytesAt w v xs) (h : xs.length < 1 ∨ 120 < xs.length) :
    Calls Try.prog 14 #[v] w (Ret (.tuple #[.slice none 0 0, .int .i64 1]) w) := by
  obtain ⟨A, c, rfl, h1, h2, h3, h4, h5⟩ := hv
  have HM := fun W => may_any (xs.length : Int) W
  rw [decide_eq_false (by omega)] at HM
  have HM := Lib.hid HM
  generalize xs.length = n at *
  clear h5 h
  go_enter Try.func14, Try.ntmps14
  go_wp2_with (go_at_call 29; refine (HM.out _).mono ?_; rintro e w' ⟨rfl, rfl⟩)
  go_returns
  exact ⟨rfl, rfl⟩

theorem own_keepB {W W' : World} {base : Nat} {v : Value} {xs : List Nat} (h : Own W base v xs) (hb : Below W.heap.size W W') : BytesAt W' v xs := h.bytes.keep hb

set_option maxRecDepth 100000 in
set_option maxHeartbeats 2000000 in
theorem seal_ok (v : Value) (xs : List Nat) (w : World) (hv : BytesAt w v xs) (hl1 : 1 ≤ xs.length) (hl2 : xs.length ≤ 120) :
    Calls Try.prog 14 #[v] w (RetSeal (sealT xs) w) := by
  obtain ⟨i0, hi0, hz0, hz1, hz2⟩ := info_parts Try.infoByte
  obtain ⟨w1, hmk, hown1, hg1⟩ := run_make_own (P := Try.prog) w w.heap.size 22 5 i0 (.int .u8 0) 1 Try.underlying22 hi0 hz0 hz1 .i64 .i64 (xs.length + 2) (by rw [hz2]; omega) (by unfold maxLen; omega) (Nat.le_refl _)
  have HO1 : Hid (Own w1 w.heap.size (.slice (some ⟨w.heap.size, 0, none⟩) 0 (xs.length + 2)) []) := Lib.hid ⟨hown1, fun x h => by cases h⟩
  have hb1 : Below w.heap.size w w1 := below_grown hg1 (Nat.le_refl _) (fun k h => by cases h)
  have HB1 := Lib.hid hb1
  have HV := Lib.hid hv
  have HALL := Lib.hid (bytes_all hv)
  have hsz1 := hb1.size
  obtain ⟨A, c, rfl, h1, h2, h3, h4, h5⟩ := hv
  have HM := fun W => may_any (xs.length : Int) W
  rw [decide_eq_true (by omega)] at HM
  have HM := Lib.hid HM
  have hw2 : (xs.length : Int) + 2 = ((xs.length + 2 : Nat) : Int) := by omega
  have hw3 : wrap64 ((xs.length + 2 : Nat) : Int) = ((xs.length + 2 : Nat) : Int) := wrap64_small (by omega) (by omega)
  have hw8 : IntKind.u8.wrap (xs.length : Int) = (xs.length : Int) := by rw [IntKind.wrap_u8]; omega
  have HLIT := Lib.hid (fun W : World => lit_own W [xs.length] (by simp; omega) (by simp) 0 (Nat.zero_le _))
  have HCR := Lib.hid (crc_lt (head_bytes hl2 HALL.out))
  have HSEAL := Lib.hid (show sealT xs = ([xs.length] ++ xs) ++ [crc (xs.length :: xs)] from rfl)
  have HL2 := Lib.hid hl2
  generalize hn : xs.length = n at *
  have HN := Lib.hid hn
  generalize hn2 : n + 2 = n2 at *
  have hmk' : (Instr.makeSlice 22 (.int .i64 0) (.int .i64 (n2 : Int))).run Try.prog w = .ok (.slice (some ⟨w.heap.size, 0, none⟩) 0 n2) w1 := hmk
  clear h5 h4 hi0 hz0 hz1 hz2 hg1 hown1 hb1 hn hmk hn2
  go_enter Try.func14, Try.ntmps14
  go_wp2_with (first | (go_at_call 29; refine (HM.out _).mono ?_; rintro e w' ⟨rfl, rfl⟩) | (at_builtin; refine wpList_append_bytes rfl _ _ 22 rfl w.heap.size Try.underlying22 Try.infoByte _ [] rfl (HO1.out.alloc _) _ [n] rfl (HLIT.out w1).bytes (by simp) (by simp; omega) ?_))
  intro v2 w2 hown2 hb2
  have HB2 := Lib.hid ((HB1.out.alloc hsz1 _).trans hb2)
  have HO2 : Hid (Own w2 w.heap.size v2 [n]) := Lib.hid hown2
  have HV2 := Lib.hid (HV.out.keep HB2.out)
  have hsz2 := HB2.out.size
  clear hown2 hb2 HO1 hmk'
  go_wp2_with (at_builtin; refine wpList_append_bytes rfl _ _ 22 rfl w.heap.size Try.underlying22 Try.infoByte _ [n] rfl HO2.out _ xs rfl HV2.out (by have := HL2.out; have := HN.out; simp; omega) hsz2 ?_)
  intro v3 w3 hown3 hb3
  have HB3 := Lib.hid (HB2.out.trans hb3)
  have HO3 : Hid (Own w3 w.heap.size v3 ([n] ++ xs)) := Lib.hid hown3
  have hsz3 := HB3.out.size
  have HS := Lib.hid (sum_any v3 (n :: xs) w3 HO3.out.bytes)
  clear hown3 hb3 hsz2 HV2 HO2
  generalize crc (n :: xs) = cc at *
  have HL3 : Hid (Own (w3.alloc (.cells #[.int .u8 cc] 5)) w.heap.size (.slice (some ⟨w3.heap.size, 0, none⟩) 1 1) [cc]) := Lib.hid (lit_own w3 [cc] (by simpa using HCR.out) (by simp) w.heap.size hsz3)
  go_wp2_with (first | (go_at_call 12; refine HS.out.mono ?_; rintro e w' ⟨rfl, rfl⟩) | (at_builtin; refine wpList_append_bytes rfl _ _ 22 rfl w.heap.size Try.underlying22 Try.infoByte _ ([n] ++ xs) rfl (HO3.out.alloc _) _ [cc] rfl HL3.out.bytes (by have := HL2.out; have := HN.out; simp; omega) (by simp; omega) ?_))
  intro v4 w4 hown4 hb4
  have HB4 := Lib.hid ((HB3.out.alloc hsz3 _).trans hb4)
  have HO4 : Hid (Own w4 w.heap.size v4 ([n] ++ xs ++ [cc])) := Lib.hid hown4
  clear hown4 hb4
  go_wp2
  go_returns
  exact ⟨_, rfl, by rw [HSEAL.out]; exact HO4.out, HB4.out⟩

set_option maxRecDepth 100000 in
set_option maxHeartbeats 2000000 in
theorem refSeal_any (v : Value) (xs : List Nat) (w : World) (hv : BytesAt w v xs) (hl2 : xs.length ≤ 120) :
    Calls Try.prog 15 #[v] w (RetO w.heap.size (sealT xs) w) := by
  have HALL := Lib.hid (bytes_all hv)
  have HV := Lib.hid hv
  obtain ⟨A, c, rfl, h1, h2, h3, h4, h5⟩ := hv
  have hw8 : IntKind.u8.wrap (xs.length : Int) = (xs.length : Int) := by rw [IntKind.wrap_u8]; omega
  have HLIT := Lib.hid (lit_own w [xs.length] (by simp; omega) (by simp) w.heap.size (Nat.le_refl _))
  have HB1 := Lib.hid (show Below w.heap.size w (w.alloc (.cells #[.int .u8 xs.length] 5)) from (Below.refl _ _).alloc (Nat.le_refl _) _)
  have HV1 := Lib.hid (HV.out.keep HB1.out)
  have HCR := Lib.hid (crc_lt (head_bytes hl2 HALL.out))
  have HSEAL := Lib.hid (show sealT xs = ([xs.length] ++ xs) ++ [crc (xs.length :: xs)] from rfl)
  have HL2 := Lib.hid hl2
  generalize hn : xs.length = n at *
  have HN := Lib.hid hn
  clear h5 h4 hn
  go_enter Try.func15, Try.ntmps15
  go_wp2_with (at_builtin; refine wpList_append_bytes rfl _ _ 22 rfl w.heap.size Try.underlying22 Try.infoByte _ [n] rfl HLIT.out _ xs rfl HV1.out (by have := HL2.out; have := HN.out; simp; omega) (by simp) ?_)
  intro v3 w3 hown3 hb3
  have HB3 := Lib.hid (HB1.out.trans hb3)
  have HO3 : Hid (Own w3 w.heap.size v3 ([n] ++ xs)) := Lib.hid hown3
  have hsz3 := HB3.out.size
  have HS := Lib.hid (refSum_any v3 (n :: xs) w3 HO3.out.bytes)
  clear hown3 hb3 HV1 HLIT
  generalize crc (n :: xs) = cc at *
  have HL3 : Hid (Own (w3.alloc (.cells #[.int .u8 cc] 5)) w.heap.size (.slice (some ⟨w3.heap.size, 0, none⟩) 1 1) [cc]) := Lib.hid (lit_own w3 [cc] (by simpa using HCR.out) (by simp) w.heap.size hsz3)
  go_wp2_with (first | (go_at_call 13; refine HS.out.mono ?_; rintro e w' ⟨rfl, rfl⟩) | (at_builtin; refine wpList_append_bytes rfl _ _ 22 rfl w.heap.size Try.underlying22 Try.infoByte _ ([n] ++ xs) rfl (HO3.out.alloc _) _ [cc] rfl HL3.out.bytes (by have := HL2.out; have := HN.out; simp; omega) (by simp; omega) ?_))
  intro v4 w4 hown4 hb4
  have HB4 := Lib.hid ((HB3.out.alloc hsz3 _).trans hb4)
  have HO4 : Hid (Own w4 w.heap.size v4 ([n] ++ xs ++ [cc])) := Lib.hid hown4
  clear hown4 hb4
  go_wp2
  go_ret
  exact ⟨_, rfl, by rw [HSEAL.out]; exact HO4.out, HB4.out⟩
end Go.Proofs.Ytlnheknhdabhdaa
