/-
  The document's bad, same and value.
  Conditions: none beyond what the slices read as; value: no more than 100000 bytes.
-/
import Derived.Test.YtaffcpjhaacadaaReadMath
import Derived.Test.YtaffcpjhaacadaaRefNum
import Derived.Lib.SlicesS
import Derived.Laws.ResultCell
set_option linter.unusedVariables false
namespace Go.Proofs.Ytaffcpjhaacadaa
open Go.RowKit

theorem text_beq {xs ys : List Nat} {p : Bool} (hx : ∀ x ∈ xs, x < 256) (hy : ∀ y ∈ ys, y < 256) (h : xs = ys ↔ p = true) : ((textOf xs).toList == (textOf ys).toList) = p := by
  cases p
  · have hne : xs ≠ ys := fun e => by have := h.1 e; cases this
    have : textOf xs ≠ textOf ys := fun e => hne (textOf_inj hx hy e)
    exact (Lib.bytes_beq_false_iff _ _).2 this
  · have e := h.2 rfl
    subst e
    simp
theorem BytesAt.first {W : World} {A : Option Addr} {n c : Nat} {bs : List Nat} (h : BytesAt W (.slice A n c) bs) {k : Nat} (hk : k ≤ bs.length) : BytesAt W (.slice A k c) (bs.take k) := by
  obtain ⟨A0, c0, e, h2, h3, h4, h5, h6⟩ := h
  injection e with e1 e2 e3
  subst e1 e2 e3
  have hl : (bs.take k).length = k := by rw [List.length_take]; omega
  refine ⟨A, c, by rw [hl], by omega, h3, h4, fun x hx => h5 x (List.mem_of_mem_take hx), fun hp => ?_⟩
  obtain ⟨b, off, e, hlt, hc⟩ := h6 (by omega)
  refine ⟨b, off, e, hlt, fun j x hx => ?_⟩
  rw [List.getElem?_take] at hx
  split at hx
  · exact hc j x hx
  · cases hx
theorem BytesAt.bytes {W : World} {v : Value} {bs : List Nat} (h : BytesAt W v bs) : ∀ x ∈ bs, x < 256 := by
  obtain ⟨A, c, rfl, h2, h3, h4, h5, h6⟩ := h
  exact h5

set_option maxRecDepth 100000 in
set_option maxHeartbeats 1000000 in
theorem refSame_any (u v : Value) (xs ys : List Nat) (w : World) (hu : BytesAt w u xs) (hv : BytesAt w v ys) :
    Calls Try.prog 46 #[u, v] w (Ret (.bool (decide (xs = ys))) w) := by
  have e1 := conv_text (P := Try.prog) (dst := 9) hu Try.underlying25 Try.underlying5 Try.underlying9
  have e2 := conv_text (P := Try.prog) (dst := 9) hv Try.underlying25 Try.underlying5 Try.underlying9
  have e3 := text_beq (p := decide (xs = ys)) hu.bytes hv.bytes (by rw [decide_eq_true_iff])
  generalize decide (xs = ys) = p at *
  generalize textOf xs = s at *
  generalize textOf ys = t at *
  clear hu hv
  go_enter Try.func46, Try.ntmps46
  go_wp2
  go_ret
  exact ⟨rfl, rfl⟩

set_option maxRecDepth 100000 in
set_option maxHeartbeats 1000000 in
theorem refBad_any (e : Int) (w : World) :
    Calls Try.prog 44 #[.int .i64 e] w (RetB (.agg #[.slice none 0 0, .int .i64 e]) w) := by
  go_enter Try.func44, Try.ntmps44
  repeat go_step
  go_returns
  exact ⟨rfl, (Below.refl _ _).alloc (Nat.le_refl _) _⟩

theorem valueT_step {bs : List Nat} {k x : Nat} (h : bs[k]? = some x) : valueT (bs.drop k) = (128 * valueT (bs.drop (k + 1)) % 18446744073709551616 + x % 128) % 18446744073709551616 := by
  obtain ⟨hk, rfl⟩ := List.getElem?_eq_some_iff.1 h
  rw [List.drop_eq_getElem_cons hk]
  conv => lhs; unfold valueT
  omega

set_option maxRecDepth 100000 in
set_option maxHeartbeats 1000000 in
theorem refValue_any (v : Value) (bs : List Nat) (w : World) (hv : BytesAt w v bs) (hl : bs.length ≤ 100000) :
    Calls Try.prog 45 #[v] w (Ret (.int .u64 (valueT bs)) w) := by
  obtain ⟨A, c, rfl, h1, h2, h3, h4, h5⟩ := hv
  have HAT := Lib.hid h5
  have HS := Lib.hid h4
  generalize hn : bs.length = n at *
  have HN := Lib.hid hn
  clear h5 h4 hn h2
  go_enter Try.func45, Try.ntmps45
  go_wp2_with fail
  go_loopg [3, 4] n (fun g s3 s4 wr => ∃ k p : Nat, g = k ∧ k ≤ n ∧ s4 = .int .i64 ((k : Int) - 1) ∧ s3 = .int .u64 p ∧ Hid (p = valueT (bs.drop k)) ∧ wr = w)
  case atStart =>
    refine ⟨n, 0, rfl, Nat.le_refl _, rfl, rfl, ?_, rfl⟩
    unfold Hid
    rw [List.drop_of_length_le (by have := HN.out; omega)]
    rfl
  case round =>
    obtain ⟨k, p, hg, hk, rfl, rfl, hp, rfl⟩ := hrel
    have HP := Lib.hid hp.out
    clear hp
    rcases k with _ | k
    · have HV := Lib.hid (show p = valueT bs by have := HP.out; rwa [List.drop_zero] at this)
      have hge : ¬ (0 : Int) ≤ ((0 : Nat) : Int) - 1 := by omega
      go_wp2
      go_ret
      exact ⟨by rw [HV.out]; rfl, rfl⟩
    · have e1 : (((k + 1 : Nat) : Int)) - 1 = (k : Int) := by omega
      rw [e1]
      have hkn : k < n := by omega
      obtain ⟨b, off, rfl, hbl, hcell⟩ := HAT.out (by omega)
      obtain ⟨x, hx⟩ := ex_at (xs := bs) (k := k) (by have := HN.out; omega)
      have hck := hcell k x hx
      have HST := Lib.hid (valueT_step hx)
      have hx256 : x < 256 := HS.out x (List.mem_of_getElem? hx)
      have hmod : ((x : Int)).tmod 128 = ((x % 128 : Nat) : Int) := by rw [Int.tmod_eq_emod_of_nonneg (by omega)]; omega
      have HQ := Lib.hid (show valueT (bs.drop k) = (128 * p % 18446744073709551616 + x % 128) % 18446744073709551616 by rw [HP.out]; exact HST.out)
      have hy : x % 128 < 128 := by omega
      have hmul : IntKind.u64.wrap (128 * (p : Int)) = ((128 * p % 18446744073709551616 : Nat) : Int) := by rw [IntKind.wrap_u64]; omega
      generalize 128 * p % 18446744073709551616 = m at *
      generalize x % 128 = y at *
      have hyw : IntKind.u64.wrap (y : Int) = (y : Int) := by rw [IntKind.wrap_u64]; omega
      have hadd : IntKind.u64.wrap ((m : Int) + (y : Int)) = (((m + y) % 18446744073709551616 : Nat) : Int) := by rw [IntKind.wrap_u64]; omega
      generalize (m + y) % 18446744073709551616 = q at *
      have hkz : (k : Int) < (n : Int) := by omega
      have hk0 : (0 : Int) ≤ (k : Int) := by omega
      clear hcell hx e1
      go_wp2_with fail
      go_roundg k
      case measure => omega
      case rel => exact ⟨k, q, rfl, by omega, rfl, rfl, HQ.out.symm, rfl⟩
end Go.Proofs.Ytaffcpjhaacadaa
