/-
  The law's own links: an error with just these links, whatever they are.
  Conditions: the variable errors.errorType holds its handle; no more than 100 links.
-/
import Derived.Test.YtnddojngbolbfaaDoorRefCheck
import Derived.Test.YtnddojngbolbfaaDoorLinks
set_option linter.unusedVariables false
namespace Go.Proofs.YtnddojngbolbfaaDoor
open Go.RowKit Go.Extern.Stop Go.Stop Go.Extern

/-- The program's links, by their keys. -/
theorem keys_of_own {W : World} {base : Nat} {v : Value} {is : List Item} (h : W.ownsRow base 51 3 v is.length (linksCells is)) : KeysAt W v (is.map (fun i => (i.code, i.part, i.pos))) := by
  rcases h.2 with ⟨h1, h2⟩ | ⟨g, cap, cur, hv, hb, hh, hn, hm, hsz, htk⟩
  · have : is = [] := List.length_eq_zero_iff.1 h2
    subst this
    rw [h1]
    exact KeysAt.nil W
  · refine ⟨some ⟨g, 0, none⟩, cap, by rw [List.length_map]; exact hv, by rw [List.length_map]; exact hn, fun _ => ⟨g, rfl, (Array.getElem?_eq_some_iff.1 hh).1, fun j k hk => ?_⟩⟩
    rw [List.getElem?_map] at hk
    obtain ⟨i, hi, rfl⟩ := Option.map_eq_some_iff.1 hk
    obtain ⟨hj, rfl⟩ := List.getElem?_eq_some_iff.1 hi
    have key : ∀ k, k < 3 → W.cell? ⟨g, j * 3 + k, none⟩ = (linksCells is)[j * 3 + k]? := by
      intro k hk
      have e1 : W.cell? ⟨g, j * 3 + k, none⟩ = cur[j * 3 + k]? := by simp [World.cell?, hh]
      rw [e1, ← htk, List.getElem?_take]
      rw [if_pos (by omega)]
      simp
    obtain ⟨a, b, c⟩ := linksCells_at is j hj
    refine ⟨?_, ?_, ?_⟩
    · have := key 0 (by omega); rw [Nat.add_zero] at this; rw [this]; exact a
    · rw [key 1 (by omega)]; exact b
    · rw [key 2 (by omega)]; exact c

set_option maxRecDepth 100000 in
set_option maxHeartbeats 4000000 in
theorem linksLaw_any (v l : Value) (ks : List LKey) (lo : Nat) (w : World) (he : ErrAt lo w v ks) (hl : KeysAt w l ks) (hg : EType w) (hn : ks.length ≤ 100) :
    Calls Tryd.prog 9 #[v, l] w (RetB (.bool true) w) := by
  have hev := he.cases
  obtain ⟨is, h1, _, h3⟩ := he
  have hil : is.length = ks.length := by rw [← h3, List.length_map]
  have HL := Lib.hid (links_any v is w h1 hg (by omega))
  have HLK := Lib.hid hl
  have H3 := Lib.hid h3
  have hkn : (ks = [] → ks.length = 0) ∧ (ks ≠ [] → 0 < ks.length) := ⟨fun h => by rw [h]; rfl, fun h => List.length_pos_iff.2 h⟩
  obtain ⟨A, c, rfl, hlc, hat⟩ := hl
  have HAT := Lib.hid hat
  clear h1 h3 hil hat
  go_enter Tryd.func9, Tryd.ntmps9
  go_wp2_with fail
  refine HL.out.mono ?_
  rintro e w1 ⟨sv, rfl, hb1, hown⟩
  have hsk := keys_of_own hown
  rw [H3.out] at hsk
  have HB1 := Lib.hid hb1
  obtain ⟨A2, c2, rfl, hlc2, hat2⟩ := hsk
  have HAT2 := Lib.hid hat2
  clear hown hat2 hb1
  generalize hnk : ks.length = n at *
  have HN := Lib.hid hnk
  clear hnk
  rcases hev with ⟨rfl, hk⟩ | ⟨b', rfl, hk⟩
  · have hE := fun W => run_eql_nil_nil (P := Tryd.prog) W 27 (by kernel_rfl)
    have h0 := hkn.1 hk
    subst h0
    clear hkn hk
    go_wp2_with fail
    go_loopg [6] 0 (fun gg s6 wr => s6 = .int .i64 0 ∧ Hid (Below w1.heap.size w1 wr))
    case atStart => exact ⟨rfl, Below.refl _ _⟩
    case round =>
      obtain ⟨rfl, hb⟩ := hrel
      have HB := Lib.hid hb.out
      clear hb
      go_wp2
      go_ret
      exact ⟨rfl, HB1.out.trans (HB.out.mono HB1.out.size)⟩
  · have hE := fun W x => run_eql_held_nil (P := Tryd.prog) W 27 80 x (by kernel_rfl)
    have hp := hkn.2 hk
    have hpz : ((n : Int) == 0) = false := by simp; omega
    have hnn : ((n : Int) != (n : Int)) = false := by simp
    obtain ⟨g1, rfl, hg1, hc1⟩ := HAT.out hp
    obtain ⟨g2, rfl, hg2, hc2⟩ := HAT2.out hp
    have HC1 := Lib.hid (fun (j : Nat) (k : LKey) (hj : ks[j]? = some k) => hc1 j k hj)
    have HC2 := Lib.hid hc2
    clear hkn hk hc1 hc2
    go_wp2_with fail
    go_loopg [6] n (fun gg s6 wr => ∃ i : Nat, gg = n - i ∧ i ≤ n ∧ s6 = .int .i64 i ∧ Hid (Below w1.heap.size w1 wr))
    case atStart => exact ⟨0, rfl, Nat.zero_le _, rfl, Below.refl _ _⟩
    case round =>
      obtain ⟨i, hgg, hi, rfl, hb⟩ := hrel
      have HG := Lib.hid hgg
      have HB := Lib.hid hb.out
      clear hgg hb
      by_cases hlt : i < n
      · obtain ⟨⟨kc, kp, ka⟩, hk⟩ : ∃ k, ks[i]? = some k := ⟨_, List.getElem?_eq_getElem (show i < ks.length by have := HN.out; omega)⟩
        obtain ⟨p0, p1, p2⟩ := HC1.out i _ hk
        obtain ⟨q0, q1, q2⟩ := HC2.out i _ hk
        simp only at p0 p1 p2 q0 q1 q2
        have hb2 := HB1.out.trans (HB.out.mono HB1.out.size)
        have p0' := (hb2.cell (p := ⟨g1, i * 3, none⟩) hg1).trans p0
        have p1' := (hb2.cell (p := ⟨g1, i * 3 + 1, none⟩) hg1).trans p1
        have p2' := (hb2.cell (p := ⟨g1, i * 3 + 2, none⟩) hg1).trans p2
        have q0' := (HB.out.cell (p := ⟨g2, i * 3, none⟩) hg2).trans q0
        have q1' := (HB.out.cell (p := ⟨g2, i * 3 + 1, none⟩) hg2).trans q1
        have q2' := (HB.out.cell (p := ⟨g2, i * 3 + 2, none⟩) hg2).trans q2
        have hiz : (i : Int) < (n : Int) := by omega
        have e1 : (kc != kc) = false := by simp
        have e2 : (ka != ka) = false := by simp
        have e3 : (kp.toList != kp.toList) = false := by simp
        clear p0 p1 p2 q0 q1 q2 hk hb2
        go_wp2_with fail
        go_quiet (fail)
        go_wp2_with fail
        trace_state
        go_roundg (n - (i + 1))
        case measure => have := HG.out; omega
        case rel => exact ⟨i + 1, rfl, by omega, by go_num, below_drewN HB.out _⟩
      · have hiz : ¬ (i : Int) < (n : Int) := by omega
        go_wp2
        go_ret
        exact ⟨rfl, HB1.out.trans (HB.out.mono HB1.out.size)⟩
end Go.Proofs.YtnddojngbolbfaaDoor
