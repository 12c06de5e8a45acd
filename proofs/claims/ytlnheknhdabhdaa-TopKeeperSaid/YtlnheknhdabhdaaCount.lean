/-
  The program's Count.
  Conditions: no more than 100000 bytes.
-/
import Derived.Test.YtlnheknhdabhdaaSplit
set_option linter.unusedVariables false
namespace Go.Proofs.Ytlnheknhdabhdaa
open Go.RowKit

/-- How many are right, and how many are not. -/
def rightT : List Rc → Nat
  | [] => 0
  | r :: l => (if r.ok = true then 1 else 0) + rightT l
def wrongT : List Rc → Nat
  | [] => 0
  | r :: l => (if r.ok = true then 0 else 1) + wrongT l
theorem rightT_cons (r : Rc) (l : List Rc) : rightT (r :: l) = (if r.ok = true then 1 else 0) + rightT l := rfl
theorem wrongT_cons (r : Rc) (l : List Rc) : wrongT (r :: l) = (if r.ok = true then 0 else 1) + wrongT l := rfl
theorem bytes_some {W : World} {A : Option Addr} {n c : Nat} {bs : List Nat} (h : BytesAt W (.slice A n c) bs) (hn : 0 < bs.length) : ∃ b off, A = some ⟨b, off, none⟩ := by
  obtain ⟨A', c', e, _, _, _, _, h6⟩ := h
  injection e with e1 e2 e3
  subst e1
  obtain ⟨b, off, e, _⟩ := h6 hn
  exact ⟨b, off, e⟩
theorem right_wrong : ∀ l, rightT l + wrongT l = l.length
  | [] => rfl
  | r :: l => by
    have := right_wrong l
    rw [List.length_cons, rightT_cons, wrongT_cons]
    split <;> omega
theorem rightT_append : ∀ l m, rightT (l ++ m) = rightT l + rightT m
  | [], m => by simp [rightT]
  | r :: l, m => by
    rw [List.cons_append, rightT_cons, rightT_cons, rightT_append l m]
    omega

def CountRel (bs : List Nat) (w : World) (g : Nat) (s0 s2 s3 : Value) (wr : World) : Prop :=
  ∃ (a r q : Nat), a ≤ bs.length ∧ g = bs.length - a ∧ BytesAt wr s0 (bs.drop a) ∧ s2 = .int .i64 r ∧ s3 = .int .i64 q ∧ r + rightT (splitT bs a) = rightT (splitT bs 0) ∧ q + wrongT (splitT bs a) = wrongT (splitT bs 0) ∧ Below w.heap.size w wr

set_option maxRecDepth 100000 in
set_option maxHeartbeats 1000000 in
theorem count_any (v : Value) (bs : List Nat) (w : World) (hv : BytesAt w v bs) (hl : bs.length ≤ 100000) :
    Calls Try.prog 11 #[v] w (RetB (.tuple #[.int .i64 (rightT (splitT bs 0)), .int .i64 (wrongT (splitT bs 0))]) w) := by
  have HV := Lib.hid hv
  have hrw := right_wrong (splitT bs 0)
  have hsl := splitT_length bs bs.length 0 (by omega)
  have KR := Lib.hid (show rightT (splitT bs 0) ≤ 100000 by omega)
  have KW := Lib.hid (show wrongT (splitT bs 0) ≤ 100000 by omega)
  have HL := Lib.hid hl
  clear hrw hsl hv
  go_enter Try.func11, Try.ntmps11
  go_wp2_with fail
  go_loopg [0, 2, 3] bs.length (fun g s0 s2 s3 wr => CountRel bs w g s0 s2 s3 wr)
  case atStart => exact ⟨0, 0, 0, Nat.zero_le _, rfl, HV.out, rfl, rfl, Nat.zero_add _, Nat.zero_add _, Below.refl _ _⟩
  case round =>
    obtain ⟨a, r, q, ha, hg, hb, rfl, rfl, hr, hq, hbw⟩ := hrel
    have HG := Lib.hid hg
    have HR := Lib.hid hr
    have HQ := Lib.hid hq
    have HB := Lib.hid hbw
    have HX := Lib.hid hb
    have hsz := hbw.size
    have hdl : (bs.drop a).length = bs.length - a := List.length_drop
    have hra : r ≤ 100000 := by have := KR.out; omega
    have hqa : q ≤ 100000 := by have := KW.out; omega
    obtain ⟨A, c, rfl, h1, h2, _⟩ := hb
    clear hg hr hq hbw
    by_cases hlt : a < bs.length
    · have HFI := Lib.hid (first_any _ _ wr HX.out (by rw [hdl]; omega))
      obtain ⟨len, ok, hf, hl1, hl2, hl3, hs⟩ := rc_facts hlt
      unfold firstV at HFI
      rw [hf] at HFI
      have HX2 : Hid (BytesAt wr (.slice A (bs.drop a).length c) (bs.drop a)) := HX
      have hll : len ≤ (bs.drop a).length := by omega
      have hllz : (len : Int) ≤ (c : Int) := by omega
      have hll2 : (len : Int) ≤ ((bs.drop a).length : Int) := by omega
      have hp : (0 : Int) < ((bs.drop a).length : Int) := by omega
      have HLEN := Lib.hid hl1
      have HDROP := Lib.hid (show (bs.drop a).drop len = bs.drop (a + len) from List.drop_drop)
      have HAL := Lib.hid hl2
      have KME := Lib.hid (show bs.length - (a + len) < gk by have := HG.out; omega)
      have HRN : Hid ((r + if ok = true then 1 else 0) + rightT (splitT bs (a + len)) = rightT (splitT bs 0)) := Lib.hid (by
        have h := HR.out
        rw [hs, rightT_cons] at h
        rw [Nat.add_assoc]
        exact h)
      have HQN : Hid ((q + if ok = true then 0 else 1) + wrongT (splitT bs (a + len)) = wrongT (splitT bs 0)) := Lib.hid (by
        have h := HQ.out
        rw [hs, wrongT_cons] at h
        rw [Nat.add_assoc]
        exact h)
      have HLL := Lib.hid hll
      generalize hm : (bs.drop a).length = m at *
      have HM := Lib.hid hm
      clear hm hs hf hdl hl3 hll HX
      have main : ∀ (S : Value) (w1 : World), Below wr.heap.size wr w1 → BytesAt w1 S (bs.drop (a + len)) → CountRel bs w (bs.length - (a + len)) S (.int .i64 ((r + if ok = true then 1 else 0 : Nat))) (.int .i64 ((q + if ok = true then 0 else 1 : Nat))) w1 := fun S w1 hb hS =>
        ⟨a + len, _, _, HAL.out, rfl, hS, rfl, rfl, HRN.out, HQN.out, HB.out.trans (hb.mono hsz)⟩
      have MAIN := Lib.hid main
      clear main
      by_cases hce : c = len
      · have HBE := Lib.hid (fun w1 (h : Below wr.heap.size wr w1) => behind_end (HX2.out.keep h) (k := len) (by rw [HM.out]; exact HLL.out) hce)
        rw [HDROP.out, show m - len = 0 by omega] at HBE
        subst hce
        cases ok
        · go_wp2_with (go_at_call 26; refine HFI.out.mono ?_; rintro e w1 ⟨rfl, hb1⟩; have HB1 := Lib.hid hb1; clear hb1)
          go_roundg (bs.length - (a + c))
          case measure => exact KME.out
          case rel => exact MAIN.out _ _ HB1.out (HBE.out _ HB1.out)
        · go_wp2_with (go_at_call 26; refine HFI.out.mono ?_; rintro e w1 ⟨rfl, hb1⟩; have HB1 := Lib.hid hb1; clear hb1)
          go_roundg (bs.length - (a + c))
          case measure => exact KME.out
          case rel => exact MAIN.out _ _ HB1.out (HBE.out _ HB1.out)
      · have HBE := Lib.hid (fun w1 (h : Below wr.heap.size wr w1) => behind_more (HX2.out.keep h) (k := len) (by rw [HM.out]; exact HLL.out))
        rw [HDROP.out] at HBE
        rcases A with _ | A
        · obtain ⟨b, off, e⟩ := bytes_some HX2.out (by rw [HM.out]; have := HLL.out; have := HLEN.out; omega)
          cases e
        · cases ok
          · go_wp2_with (go_at_call 26; refine HFI.out.mono ?_; rintro e w1 ⟨rfl, hb1⟩; have HB1 := Lib.hid hb1; clear hb1)
            go_roundg (bs.length - (a + len))
            case measure => exact KME.out
            case rel => exact MAIN.out _ _ HB1.out (HBE.out _ HB1.out)
          · go_wp2_with (go_at_call 26; refine HFI.out.mono ?_; rintro e w1 ⟨rfl, hb1⟩; have HB1 := Lib.hid hb1; clear hb1)
            go_roundg (bs.length - (a + len))
            case measure => exact KME.out
            case rel => exact MAIN.out _ _ HB1.out (HBE.out _ HB1.out)
    · have hend : a = bs.length := by omega
      have HF : Hid (r = rightT (splitT bs 0) ∧ q = wrongT (splitT bs 0)) := Lib.hid (by
        have h := HR.out
        have h' := HQ.out
        rw [splitT_end (by omega)] at h h'
        exact ⟨h, h'⟩)
      have hp : ¬ (0 : Int) < ((bs.drop a).length : Int) := by omega
      generalize (bs.drop a).length = m at *
      clear hend
      go_wp2_with fail
      go_returns
      exact ⟨by rw [HF.out.1, HF.out.2]; rfl, HB.out⟩
end Go.Proofs.Ytlnheknhdabhdaa
