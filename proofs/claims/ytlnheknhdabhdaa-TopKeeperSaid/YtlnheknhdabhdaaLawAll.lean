/-
  RecordAll walked.
  Conditions: the argument reads as bytes.
-/
import Derived.Test.YtlnheknhdabhdaaAwake
set_option linter.unusedVariables false
namespace Go.Proofs.Ytlnheknhdabhdaa
open Go.RowKit

theorem drop_at {α : Type} {l : List α} {i : Nat} {p : α} (h : l[i]? = some p) : l.drop i = p :: l.drop (i + 1) := by
  obtain ⟨hi, rfl⟩ := List.getElem?_eq_some_iff.1 h
  exact List.drop_eq_getElem_cons hi
theorem all_step {bs : List Nat} {a i : Nat} {l : List (Rc × Value)} {p : Rc × Value} (h : splitT bs a = (l.map Prod.fst).drop i) (hp : l[i]? = some p) :
    a < bs.length ∧ p.1 = rcT bs a ∧ splitT bs (a + p.1.len) = (l.map Prod.fst).drop (i + 1) := by
  have hp' : (l.map Prod.fst)[i]? = some p.1 := by rw [List.getElem?_map, hp]; rfl
  rw [drop_at hp'] at h
  rcases Nat.lt_or_ge a bs.length with h1 | h1
  · rw [splitT_more h1] at h
    injection h with h2 h3
    refine ⟨h1, h2.symm, ?_⟩
    rw [← h2]
    exact h3
  · rw [splitT_end h1] at h
    cases h

def AllRel (bs : List Nat) (l : List (Rc × Value)) (w : World) (g : Nat) (s4 s5 : Value) (wr : World) : Prop :=
  ∃ a i : Nat, i ≤ l.length ∧ g = l.length - i ∧ s4 = .int .i64 a ∧ s5 = .int .i64 i ∧ a ≤ bs.length ∧ splitT bs a = (l.map Prod.fst).drop i ∧ Below w.heap.size w wr

set_option maxRecDepth 100000 in
set_option maxHeartbeats 2000000 in
theorem all_law (bs : List Nat) (v : Value) (w : World) (hv : BytesAt w v bs) : Calls Try.prog 5 #[v] w (RetB (.bool true) w) := by
  have HAW := Lib.hid (fun W => awake_any W)
  have HSP := Lib.hid (fun h => split_any v bs w hv h)
  obtain ⟨A, c, rfl, _⟩ := hv
  generalize hn : bs.length = n at *
  have HN := Lib.hid hn
  clear hn
  by_cases hg : 3000 < n
  · have y1 : 3000 < (n : Int) := by omega
    clear hg
    go_enter Try.func5, Try.ntmps5
    go_wp2_with (go_at_call 8; refine (HAW.out _).mono ?_; rintro e w' ⟨rfl, hb⟩)
    go_ret
    exact ⟨rfl, hb⟩
  · have y1 : ¬ 3000 < (n : Int) := by omega
    have HS := Lib.hid (HSP.out (by omega))
    clear HSP
    go_enter Try.func5, Try.ntmps5
    go_wp2_with fail
    refine HS.out.mono ?_
    rintro e w1 ⟨v1, l, rfl, hm, hra, hb1⟩
    have HM := Lib.hid hm
    have HB1 := Lib.hid hb1
    have hll : l.length ≤ 3000 := by
      have h1 := splitT_length bs bs.length 0 (by omega)
      rw [← hm, List.length_map] at h1
      have := HN.out
      omega
    obtain ⟨A1, c1, rfl, k1, k2, k3, _⟩ := hra
    have HAT := Lib.hid k3
    clear hm hb1 k3 HS
    generalize hl : l.length = L at *
    have HL := Lib.hid hl
    clear hl
    go_wp2_with fail
    go_loopg [4, 5] L (fun g s4 s5 wr => AllRel bs l w g s4 s5 wr ∧ Below w1.heap.size w1 wr)
    case atStart => exact ⟨⟨0, 0, Nat.zero_le _, by rw [HL.out]; rfl, rfl, rfl, Nat.zero_le _, by rw [HM.out]; rfl, HB1.out⟩, Below.refl _ _⟩
    case round =>
      obtain ⟨⟨a, i, hi, hgk, rfl, rfl, ha, hsp, hbw⟩, hbw1⟩ := hrel
      have HG := Lib.hid hgk
      have HSPL := Lib.hid hsp
      have HB := Lib.hid hbw
      rw [HL.out] at hi
      rw [HN.out] at ha
      clear hgk hsp hbw
      by_cases hlt : i < L
      · obtain ⟨g, hA, hgl, hcell⟩ := HAT.out (by omega)
        subst hA
        obtain ⟨p, hp⟩ := ex_at (xs := l) (k := i) (by rw [HL.out]; exact hlt)
        obtain ⟨c0, c1', _, _⟩ := hcell i p hp
        have hc0 := (hbw1.cell (p := ⟨g, i * 4, none⟩) hgl).trans c0
        have hc1 := (hbw1.cell (p := ⟨g, i * 4 + 1, none⟩) hgl).trans c1'
        obtain ⟨s1, s2, s3⟩ := all_step HSPL.out hp
        have hat : p.1.at_ = a := by rw [s2]; rfl
        obtain ⟨t1, t2⟩ := rcT_len s1
        rw [← s2] at t1 t2
        rw [hat] at hc0
        have HBW1 := Lib.hid hbw1
        have HS3 := Lib.hid s3
        rw [HN.out] at t2 s1
        generalize p.1.len = len at *
        have hiz : (i : Int) < (L : Int) := by omega
        have hi0 : (0 : Int) ≤ (i : Int) := by omega
        obtain ⟨na, hna⟩ : ∃ x, n - a = x := ⟨_, rfl⟩
        have hnaz : (n : Int) - (a : Int) = (na : Int) := by omega
        have hlz : ¬ (len : Int) < 1 := by omega
        have hlz' : decide ((len : Int) < 1) = false := decide_eq_false hlz
        have hlna : ¬ (na : Int) < (len : Int) := by omega
        have hlna' : decide ((na : Int) < (len : Int)) = false := decide_eq_false hlna
        have HAL := Lib.hid (show a + len ≤ bs.length by rw [HN.out]; exact t2)
        have KME := Lib.hid (show L - (i + 1) < gk by have := HG.out; have := HL.out; omega)
        clear hcell c0 c1' s2 s3 hat hp hbw1 hna
        go_wp2_with fail
        go_roundg (L - (i + 1))
        case measure => exact KME.out
        case rel => exact ⟨⟨a + len, i + 1, by rw [HL.out]; omega, by rw [HL.out], by go_num, by go_num, HAL.out, HS3.out, HB.out⟩, HBW1.out⟩
      · have hia : a = n := by
          have h := HSPL.out
          rw [List.drop_of_length_le (by rw [List.length_map, HL.out]; omega)] at h
          rcases Nat.lt_or_ge a bs.length with h1 | h1
          · rw [splitT_more h1] at h; cases h
          · have := HN.out; omega
        have hiz : ¬ (i : Int) < (L : Int) := by omega
        subst hia
        go_wp2_with (go_at_call 8; refine (HAW.out _).mono ?_; rintro e w' ⟨rfl, hb⟩)
        go_ret
        exact ⟨rfl, HB.out.trans (hb.mono HB.out.size)⟩
end Go.Proofs.Ytlnheknhdabhdaa
