/-
  rise of the program.
  Conditions: the heap lies in memory; only the one told may stand wrong.
-/
import Derived.Test.YtademjmnoncieaaSwap
set_option linter.unusedVariables false
namespace Go.Proofs.Ytademjmnoncieaa
open Go.RowKit

def Like (s s' : Hs) : Prop := s'.n = s.n ∧ s'.m = s.m ∧ s'.num = s.num ∧ s'.den = s.den
theorem Like.refl (s : Hs) : Like s s := ⟨rfl, rfl, rfl, rfl⟩
theorem Like.trans {a b c : Hs} (h : Like a b) (k : Like b c) : Like a c := ⟨k.1.trans h.1, k.2.1.trans h.2.1, k.2.2.1.trans h.2.2.1, k.2.2.2.trans h.2.2.2⟩
theorem Like.lt {s s' : Hs} (h : Like s s') : s'.lt = s.lt := by unfold Hs.lt; rw [h.2.2.1, h.2.2.2]
theorem Like.swap (s : Hs) (a b : Nat) : Like s (swapS s a b) := ⟨rfl, rfl, rfl, rfl⟩

theorem RetH.apart {v : Value} {hb kb : Nat} {lv : Value} {s' : Hs} {w w' : World} {e : Ending} (h : RetH v hb kb lv s' w e w') : Apart (Foot hb kb lv) w w' := h.2.2

def RiseRel (W : World) (hb kb : Nat) (lv : Value) (s : Hs) (g : Nat) (s1 : Value) (wr : World) : Prop :=
  ∃ s', s1 = .int .i64 g ∧ g < s.m ∧ Like s s' ∧ Cons s' ∧ ButOne s'.lt s'.L s'.m g ∧ HeapAt wr hb kb lv s' ∧ Apart (Foot hb kb lv) W wr
def RisePost (W : World) (hb kb : Nat) (lv : Value) (s : Hs) (e : Ending) (wr : World) : Prop :=
  ∃ (a : Nat) (s' : Hs), e = .returned (.int .i64 a) ∧ a < s.m ∧ Like s s' ∧ Cons s' ∧ ButBelow s'.lt s'.L s'.m a ∧ HeapAt wr hb kb lv s' ∧ Apart (Foot hb kb lv) W wr

set_option maxRecDepth 100000 in
set_option maxHeartbeats 8000000 in
theorem rise_any (W : World) (hb kb : Nat) (lv : Value) (s : Hs) (a : Nat) (h : HeapAt W hb kb lv s) (hc : Cons s) (ha : a < s.m) (hh : ButOne s.lt s.L s.m a) :
    Calls Try.prog 36 #[.pointer (some ⟨hb, 0, none⟩), .int .i64 a] W (RisePost W hb kb lv s) := by
  have H := Lib.hid h
  have HC := Lib.hid hc
  have HH := Lib.hid hh
  have m1 := h.m1
  clear h hc hh
  go_enter Try.func36, Try.ntmps36
  go_wp2_with fail
  go_loopg [1] a (fun g s1 wr => RiseRel W hb kb lv s g s1 wr)
  case atStart => exact ⟨s, rfl, ha, Like.refl s, HC.out, HH.out, H.out, Apart.refl _ _⟩
  case round =>
    obtain ⟨s', rfl, hg, hlike, hcons, hbut, hat, hap⟩ := hrel
    have HL := Lib.hid hlike
    have HCo := Lib.hid hcons
    have HB := Lib.hid hbut
    have HA := Lib.hid hat
    have HP := Lib.hid hap
    have hm' := hlike.2.1
    have HM := Lib.hid hm'
    clear hlike hcons hbut hat hap hm' H HC HH
    cases gk with
    | zero =>
      go_wp2_with fail
      go_returns
      exact ⟨0, s', rfl, hg, HL.out, HCo.out, rise_done HB.out (.inl rfl), HA.out, HP.out⟩
    | succ k =>
      have e1 : ((k + 1 : Nat) : Int) - 1 = (k : Int) := by omega
      have e2 : (k : Int).tdiv 2 = ((k / 2 : Nat) : Int) := by simp
      obtain ⟨p, hp⟩ : ∃ p, k / 2 = p := ⟨_, rfl⟩
      rw [hp] at e2
      have hpk : p ≤ k := by omega
      have HPE := Lib.hid (show (k + 1 - 1) / 2 = p by rw [← hp, Nat.add_sub_cancel])
      clear hp
      have a1 : k + 1 < s'.m := by rw [HM.out]; exact hg
      have a2 : p < s'.m := by omega
      have HPR := Lib.hid (precedes_any wr hb kb lv s' (k + 1) p HA.out a1 a2 (HCo.out.lo _ a1) (HCo.out.lo _ a2) (HCo.out.on _ a1) (HCo.out.on _ a2))
      have HIF := Lib.hid (aheadB_iff s' (s'.L (k + 1)) (s'.L p))
      generalize aheadB (s'.num (s'.L (k + 1))) (s'.den (s'.L (k + 1))) (s'.L (k + 1)) (s'.num (s'.L p)) (s'.den (s'.L p)) (s'.L p) = r at *
      have A1 := Lib.hid a1
      have A2 := Lib.hid a2
      clear a1 a2
      go_wp2_with fail
      refine HPR.out.mono ?_
      rintro e w1 ⟨rfl, hb1⟩
      have HA1 := Lib.hid (HA.out.below hb1)
      have HP1 := Lib.hid (HP.out.trans (F' := Foot hb kb lv) (Apart.of_below hb1) (fun _ _ h => h))
      clear hb1
      cases r with
      | false =>
        go_wp2_with fail
        go_returns
        refine ⟨k + 1, s', rfl, hg, HL.out, HCo.out, rise_done HB.out (.inr ?_), HA1.out, HP1.out⟩
        rw [HPE.out]
        exact fun h => by have := HIF.out.2 h; cases this
      | true =>
        have HSW := Lib.hid (swap_any w1 hb kb lv s' (k + 1) p HA1.out A1.out A2.out (HCo.out.lo _ A1.out) (HCo.out.lo _ A2.out))
        go_wp2_with fail
        refine HSW.out.mono ?_
        rintro e w2 ⟨rfl, h2, p2⟩
        have HA2 := Lib.hid h2
        have HP2 := Lib.hid (HP1.out.trans p2 (fun _ _ h => h))
        clear h2 p2
        go_wp2_with fail
        go_roundg p
        case measure => omega
        case rel =>
          refine ⟨swapS s' (k + 1) p, rfl, by omega, HL.out.trans (Like.swap _ _ _), HCo.out.swap A1.out A2.out, ?_, HA2.out, HP2.out⟩
          have := rise_step (P := s'.P) s'.o HCo.out.on HB.out (Nat.succ_pos k) A1.out (by rw [HPE.out]; exact HIF.out.1 (by first | rfl | trivial))
          rw [HPE.out] at this
          exact this

end Go.Proofs.Ytademjmnoncieaa
