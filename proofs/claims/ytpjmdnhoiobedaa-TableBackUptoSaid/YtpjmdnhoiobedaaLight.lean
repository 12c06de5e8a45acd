/-
  Has a plan not too much?
  Conditions: the slice reads as places.
-/
import Derived.Test.YtpjmdnhoiobedaaLoads
set_option linter.unusedVariables false
namespace Go.Proofs.Ytpjmdnhoiobedaa
open Go.RowKit

/-- What Light tells. -/
def Lit (l : List Pl) : Prop := (∀ (k : Nat) (x : Pl), k < 300 → l[k]? = some x → x.ps.length ≤ 20) ∧ l.length ≤ 60
theorem Lit.light {l : List Pl} (h : Lit l) (ho : ∀ x ∈ l, PlOk x) : LightL l :=
  ⟨by have := h.2; omega, fun x hx => ⟨ho x hx, by
    obtain ⟨k, hk⟩ := List.mem_iff_getElem?.1 hx
    have h1 := (List.getElem?_eq_some_iff.1 hk).1
    have h2 := h.2
    have := h.1 k x (by omega) hk
    omega⟩⟩

set_option maxRecDepth 100000 in
set_option maxHeartbeats 2000000 in
theorem light_any (f : Int) (m : Nat) (v : Value) (l : List Pl) (w : World) (h : PlsAt w v l) :
    Calls Try.prog 7 #[planA f m v] w (RetIff (Lit l) w) := by
  obtain ⟨A, cA, rfl, hlc, hcm⟩ := h.form
  have HL := Lib.hid h
  obtain ⟨w1, P, hw1, hP, hPl, hb1, hbox⟩ := box_any w #[.int .i64 f, .int .u32 m, .slice A l.length cA] 25
  obtain ⟨n, hn⟩ : ∃ n, l.length = n := ⟨_, rfl⟩
  rw [hn] at HL hlc hw1 hbox ⊢
  have HN := Lib.hid hn
  have HB1 := Lib.hid hb1
  have HBOX := Lib.hid hbox
  obtain ⟨r0, r1, r2⟩ := three_heads hbox
  clear h hn hb1 hbox
  unfold planA
  go_enter Try.func7, Try.ntmps7
  go_wp2_with fail
  clear hw1 hP r0 r1 r2
  go_loopg [3] n (fun gg s3 wr => ∃ k : Nat, k ≤ n ∧ gg = n - k ∧ s3 = .int .i64 k ∧ Hid (∀ (i : Nat) (x : Pl), i < k → l[i]? = some x → x.ps.length ≤ 20) ∧ k ≤ 300 ∧ Below w1.heap.size w1 wr)
  case atStart => exact ⟨0, Nat.zero_le _, by omega, rfl, fun i x hi => absurd hi (by omega), by omega, Below.refl _ w1⟩
  case round =>
    obtain ⟨k, hk, hg, rfl, HA, hk3, hbw⟩ := hrel
    have HBW := Lib.hid hbw
    have HB := Lib.hid (HB1.out.trans (hbw.mono HB1.out.size))
    have HG := Lib.hid hg
    have hPl2 : P < wr.heap.size := Nat.lt_of_lt_of_le hPl hbw.size
    have HBX := Lib.hid ((hbw.block P hPl).trans HBOX.out)
    obtain ⟨r0, r1, r2⟩ := three_heads HBX.out
    have HLR := Lib.hid (HL.out.keep HB.out)
    clear hbw hg
    by_cases hlt : k < n
    · by_cases hl3 : k < 300
      · have hl3z : (k : Int) < 300 := by omega
        have hk0 : (0 : Int) ≤ (k : Int) := by omega
        have hltz : (k : Int) < (n : Int) := by omega
        obtain ⟨x, hx⟩ := exP_at (xs := l) (k := k) (by rw [HN.out]; exact hlt)
        obtain ⟨b, off, B, d, hA, hbl, _, ⟨c0, c1, c2, c3⟩, hps⟩ := HLR.out.at_ hx
        subst hA
        simp only at c0 c1 c2 c3
        have HX := Lib.hid hx
        have HPS := Lib.hid hps
        clear hx hps
        by_cases hp : x.ps.length ≤ 20
        · have hpz : decide ((20 : Int) < (x.ps.length : Int)) = false := decide_eq_false (by omega)
          have HE : Hid (∀ (i : Nat) (z : Pl), i < k + 1 → l[i]? = some z → z.ps.length ≤ 20) := Lib.hid (fun i z hi hz => by
            rcases Nat.lt_succ_iff_lt_or_eq.1 hi with h | rfl
            · exact HA i z h hz
            · rw [HX.out] at hz
              cases hz
              exact hp)
          go_wp2_with fail
          go_roundg (n - (k + 1))
          case measure => have := HG.out; omega
          case rel => exact ⟨k + 1, by omega, rfl, by go_num, HE.out, by omega, HBW.out⟩
        · have hpz : (20 : Int) < (x.ps.length : Int) := by omega
          have HNO := Lib.hid (show ¬ Lit l from fun h => hp (h.1 k x hl3 HX.out))
          go_wp2_with fail
          go_ret
          exact RetIff.no HNO.out HB.out
      · have hltz : (k : Int) < (n : Int) := by omega
        have hl3z : ¬ (k : Int) < 300 := by omega
        have hnz : decide ((n : Int) ≤ 60) = false := decide_eq_false (by omega)
        have HNO := Lib.hid (show ¬ Lit l from fun h => by have := h.2; have := HN.out; omega)
        go_wp2_with fail
        go_ret
        exact RetIff.no HNO.out HB.out
    · have hltz : ¬ (k : Int) < (n : Int) := by omega
      by_cases hn6 : n ≤ 60
      · have hnz : (n : Int) ≤ 60 := by omega
        have HYE := Lib.hid (show Lit l from ⟨fun i x _ hx => HA i x (by have := (List.getElem?_eq_some_iff.1 hx).1; have := HN.out; omega) hx, by rw [HN.out]; exact hn6⟩)
        go_wp2_with fail
        go_ret
        exact RetIff.yes HYE.out HB.out
      · have hnz : decide ((n : Int) ≤ 60) = false := decide_eq_false (by omega)
        have HNO := Lib.hid (show ¬ Lit l from fun h => by have := h.2; have := HN.out; omega)
        go_wp2_with fail
        go_ret
        exact RetIff.no HNO.out HB.out
end Go.Proofs.Ytpjmdnhoiobedaa
