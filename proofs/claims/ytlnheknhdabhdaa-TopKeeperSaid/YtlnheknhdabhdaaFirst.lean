/-
  The first record of bytes; what bytes begin with; texts of bytes held against each other.
  Conditions: there is a byte.
-/
import Derived.Test.YtlnheknhdabhdaaSum
import Derived.Lib.SlicesS
set_option linter.unusedVariables false
namespace Go.Proofs.Ytlnheknhdabhdaa
open Go.RowKit

theorem text_beq {xs ys : List Nat} {p : Bool} (hx : ∀ x ∈ xs, x < 256) (hy : ∀ y ∈ ys, y < 256) (h : xs = ys ↔ p = true) : ((textOf xs).toList == (textOf ys).toList) = p := by
  cases p
  · have hne : xs ≠ ys := fun e => by have := h.1 e; cases this
    have : textOf xs ≠ textOf ys := fun e => hne (textOf_inj hx hy e)
    exact (Lib.bytes_beq_false_iff _ _).2 this
  · have e := h.2 rfl
    subst e
    simp
theorem BytesAt.first {W : World} {A : Option Addr} {n c : Nat} {bs : List Nat} (h : BytesAt W (.slice A n c) bs) {k : Nat} (hk : k ≤ bs.length) : BytesAt W (.slice A k c) (bs.take k) := by
  obtain ⟨A0, c0, e, h2, h3, h4, h5, h6⟩ := h
  injection e with e1 e2 e3
  subst e1 e2 e3
  have hl : (bs.take k).length = k := by rw [List.length_take]; omega
  refine ⟨A, c, by rw [hl], by omega, h3, h4, fun x hx => h5 x (List.mem_of_mem_take hx), fun hp => ?_⟩
  obtain ⟨b, off, e, hlt, hc⟩ := h6 (by omega)
  refine ⟨b, off, e, hlt, fun j x hx => ?_⟩
  rw [List.getElem?_take] at hx
  split at hx
  · exact hc j x hx
  · cases hx
theorem quiet_ret {P : Program} {f : FuncId} {args : Array Value} {w : World} {n : Nat} {v : Value} (h : Calls P f args (w.drewN n) (Ret v (w.drewN n))) :
    Calls P f args (w.drewN n) fun e w'' => e = .returned v ∧ ∃ m, w'' = w.drewN m := h.mono fun _ _ ⟨he, hm⟩ => ⟨he, n, hm.symm⟩
theorem cast_beq (a b : Nat) : ((a : Int) == (b : Int)) = (a == b) := by
  by_cases h : a = b
  · subst h; simp
  · have h' : (a : Int) ≠ (b : Int) := by omega
    rw [show (a == b) = false by simpa using h, show ((a : Int) == (b : Int)) = false by simpa using h']

set_option maxHeartbeats 1000000 in
theorem may_any (n : Int) (w : World) : Calls Try.prog 29 #[.int .i64 n] w (Ret (.bool (decide (1 ≤ n ∧ n ≤ 120))) w) := by
  by_cases h0 : 1 ≤ n
  · by_cases h1 : n ≤ 120
    · have e : decide (1 ≤ n ∧ n ≤ 120) = true := decide_eq_true ⟨h0, h1⟩
      rw [e]
      go_enter Try.func29, Try.ntmps29
      go_wp2
      go_ret
      exact ⟨rfl, rfl⟩
    · have e : decide (1 ≤ n ∧ n ≤ 120) = false := decide_eq_false (fun h => h1 h.2)
      have z : decide (n ≤ 120) = false := decide_eq_false h1
      rw [e]
      go_enter Try.func29, Try.ntmps29
      go_wp2
      go_ret
      exact ⟨rfl, rfl⟩
  · have e : decide (1 ≤ n ∧ n ≤ 120) = false := decide_eq_false (fun h => h0 h.1)
    have z : decide (1 ≤ n) = false := decide_eq_false h0
    rw [e]
    go_enter Try.func29, Try.ntmps29
    go_wp2
    go_ret
    exact ⟨rfl, rfl⟩

def firstV (bs : List Nat) : Value := .tuple #[.int .i64 (firstT bs).1, .bool (firstT bs).2]
set_option maxRecDepth 100000 in
set_option maxHeartbeats 1000000 in
theorem first_any (v : Value) (bs : List Nat) (w : World) (hv : BytesAt w v bs) (hp : 0 < bs.length) : Calls Try.prog 26 #[v] w (RetB (firstV bs) w) := by
  have HV := Lib.hid hv
  have HALL := Lib.hid (bytes_all hv)
  obtain ⟨A, c, rfl, h1, h2, h3, h4, h5⟩ := hv
  obtain ⟨b, off, rfl, hbl, hcell⟩ := h5 hp
  obtain ⟨x, hx⟩ := ex_at hp
  have hck := hcell 0 x hx
  rw [Nat.add_zero] at hck
  have hxs : x < 256 := HALL.out x (List.mem_of_getElem? hx)
  have hwx : wrap64 (x : Int) = (x : Int) := wrap64_small (by omega) (by omega)
  have hpz : (0 : Int) < (bs.length : Int) := by omega
  have hfst : firstT bs = if x < 1 ∨ 120 < x then (1, false) else if bs.length < x + 2 then (bs.length, false) else (x + 2, crc (bs.take (x + 1)) == bs.getD (x + 1) 0) := by
    cases bs with
    | nil => cases hx
    | cons n r =>
      have e : n = x := by simpa using hx
      subst e
      rw [firstT_cons, List.length_cons]
  have HM := Lib.hid (fun W => may_any (x : Int) W)
  unfold firstV
  by_cases hm : x < 1 ∨ 120 < x
  · have hdm : decide (1 ≤ (x : Int) ∧ (x : Int) ≤ 120) = false := decide_eq_false (by omega)
    rw [hfst, if_pos hm]
    rw [hdm] at HM
    generalize bs.length = n at *
    clear hm hfst hcell hxs hx hp
    go_enter Try.func26, Try.ntmps26
    go_wp2_with (go_at_call 29; refine (HM.out _).mono ?_; rintro e w' ⟨rfl, rfl⟩)
    go_returns
    exact ⟨rfl, Below.refl _ _⟩
  · have hdm : decide (1 ≤ (x : Int) ∧ (x : Int) ≤ 120) = true := decide_eq_true (by omega)
    rw [hfst, if_neg hm]
    rw [hdm] at HM
    have hw2 : wrap64 ((x : Int) + 2) = ((x + 2 : Nat) : Int) := by rw [wrap64_small (by omega) (by omega)]; omega
    by_cases hl : bs.length < x + 2
    · rw [if_pos hl]
      have hlz : (bs.length : Int) < ((x + 2 : Nat) : Int) := by omega
      generalize x + 2 = x2 at *
      generalize bs.length = n at *
      clear hm hfst hcell hxs hx hp hl
      go_enter Try.func26, Try.ntmps26
      go_wp2_with (go_at_call 29; refine (HM.out _).mono ?_; rintro e w' ⟨rfl, rfl⟩)
      go_returns
      exact ⟨rfl, Below.refl _ _⟩
    · rw [if_neg hl]
      have hlz : ¬ (bs.length : Int) < ((x + 2 : Nat) : Int) := by omega
      have hw1 : ((x + 2 : Nat) : Int) - 1 = ((x + 1 : Nat) : Int) := by omega
      have hw3 : wrap64 ((x + 1 : Nat) : Int) = ((x + 1 : Nat) : Int) := wrap64_small (by omega) (by omega)
      obtain ⟨z, hz⟩ := ex_at (xs := bs) (k := x + 1) (by omega)
      have hcz := hcell (x + 1) z hz
      have hgd : bs.getD (x + 1) 0 = z := by rw [List.getD_eq_getElem?_getD, hz]; rfl
      rw [hgd]
      have hbq := cast_beq (crc (bs.take (x + 1))) z
      have HS := Lib.hid (fun m => sum_any (.slice (some ⟨b, off, none⟩) (x + 1) c) (bs.take (x + 1)) (w.drewN m) ((HV.out.first (by omega)).keep (below_drewN (Below.refl _ _) m)))
      have z1 : ((x + 1 : Nat) : Int) < (bs.length : Int) := by omega
      have z2 : ((x + 1 : Nat) : Int) ≤ (c : Int) := by omega
      have z3 : (0 : Int) ≤ ((x + 1 : Nat) : Int) := by omega
      generalize (crc (bs.take (x + 1)) == z) = p at *
      generalize crc (bs.take (x + 1)) = cc at *
      generalize x + 1 = x1 at *
      generalize x + 2 = x2 at *
      generalize bs.length = n at *
      clear hm hfst hcell hxs hx hp hl hgd hz HV
      go_enter Try.func26, Try.ntmps26
      go_wp2_with (go_at_call 29; refine (HM.out _).mono ?_; rintro e w' ⟨rfl, rfl⟩)
      go_quiet ((go_at_call 12; exact quiet_ret (HS.out _)))
      go_wp2
      go_returns
      exact ⟨by simp [hw2], below_drewN (Below.refl _ _) _⟩
end Go.Proofs.Ytlnheknhdabhdaa
