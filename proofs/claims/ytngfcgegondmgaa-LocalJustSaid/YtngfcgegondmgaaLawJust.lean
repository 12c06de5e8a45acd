/-
  The law of exactness: LocalJust.
  Conditions: the slice reads as wants of ints.
-/
import Derived.Test.YtngfcgegondmgaaMade
set_option linter.unusedVariables false
namespace Go.Proofs.Ytngfcgegondmgaa
open Go.RowKit

set_option maxRecDepth 100000 in
set_option maxHeartbeats 2000000 in
theorem just_law (f : Int) (v : Value) (ps : List Sp) (w : World) (h : ArgAt w v ps) (hi : IntsS ps) :
    Calls Try.prog 5 #[.int .i64 f, v] w (RetB (.bool true) w) := by
  have HAW := Lib.hid (fun W => awake_any W)
  have harg := h
  obtain ⟨A, c, rfl, hc1, hc2, hnil, _⟩ := h
  have HS := Lib.hid (harg.cut 80 (by decide))
  have HI := Lib.hid (hi.take 80)
  have hm : min (ps.length : Int) 80 = ((min ps.length 80 : Nat) : Int) := by omega
  have hmle : min ps.length 80 ≤ ps.length := Nat.min_le_left _ _
  have hm80 : min ps.length 80 ≤ 80 := Nat.min_le_right _ _
  have HN : Hid ((ps.take 80).length = min ps.length 80) := by show _ = _; rw [List.length_take, Nat.min_comm]
  generalize ps.take 80 = qs at *
  generalize ps.length = n at *
  generalize min n 80 = m at *
  have hmc : (m : Int) ≤ (c : Int) := by omega
  have hm0 : (0 : Int) ≤ (m : Int) := by omega
  clear harg hi
  by_cases he : newE f qs = 0
  · have HE := Lib.hid he
    have HM := Lib.hid (made_ok f _ qs w HS.out HI.out he)
    have hok := new_okL he
    have HOK := Lib.hid hok
    have hev := even_begin (newT qs)
    rw [begin_new] at hev
    have HEV := Lib.hid hev
    obtain ⟨L, hL⟩ : ∃ L, newT qs = L := ⟨_, rfl⟩
    obtain ⟨S, hS⟩ : ∃ S, sumS L = S := ⟨_, rfl⟩
    rw [hL] at HM HOK HEV hok
    have HMEM : Hid (∀ p ∈ qs, p ∈ wantsT L) := fun p hp => by rw [← hL]; exact new_wants HE.out hp
    have hS64 : S ≤ 64 := by rw [← hS]; exact hok.full
    have HSS := Lib.hid hS
    clear he hok hev hL hS
    go_enter Try.func5, Try.ntmps5
    go_wp2_with fail
    refine HM.out.mono ?_
    rintro e w1 ⟨rb, rfl, hh, hb⟩
    have HB1 := Lib.hid hb
    have H1 := Lib.hid (Held.total hh HOK.out)
    rw [HSS.out] at H1
    clear hh hb
    go_wp2_with fail
    refine H1.out.mono ?_
    rintro e w2 ⟨rfl, hh, hb⟩
    have HB2 := Lib.hid (HB1.out.trans hb)
    have HH2 := Lib.hid hh
    clear hh hb
    go_wp2_with fail
    go_loopg [7, 8, 34] S (fun gg _ _ s wr => ∃ (k : Nat) (lt : List Lm), k ≤ S ∧ gg = S - k ∧ s = .int .i64 k ∧ Held w.heap.size wr rb lt ∧ OkL k lt ∧ Even k lt ∧ wantsT lt = wantsT L ∧ Below w.heap.size w wr)
    case atStart => exact ⟨0, L, Nat.zero_le _, by omega, rfl, HH2.out, HOK.out, HEV.out, rfl, HB2.out⟩
    case round =>
      obtain ⟨k, lt, hk, hg, rfl, hh, hok, hev, hw, hbw⟩ := hrel
      have HG := Lib.hid hg
      have HH := Lib.hid hh
      have HO := Lib.hid hok
      have HV := Lib.hid hev
      have HW := Lib.hid hw
      have HB := Lib.hid hbw
      clear hg hh hok hev hw hbw
      by_cases hlt : k < S
      · have hltz : (k : Int) < (S : Int) := by omega
        obtain ⟨j, x, hn, hev2⟩ := even_pick HO.out.share HV.out (by rw [sumS_wants HW.out, HSS.out]; exact hlt)
        have HV2 := Lib.hid hev2
        have HP := Lib.hid (Held.pick HH.out HO.out (by omega) (IntsAt.nil wr))
        have hpv : pickV (nextT (offB []) lt) = .tuple #[.int .i64 x.u, .bool true] := by rw [off_none, hn]; rfl
        rw [hpv] at HP
        clear hn hev2 hpv
        go_wp2_with fail
        refine HP.out.mono ?_
        rintro e w3 ⟨rfl, hh, hb⟩
        have HH3 := Lib.hid hh
        have HB3 := Lib.hid (HB.out.trans hb)
        clear hh hb
        go_wp2_with fail
        go_roundg (S - (k + 1))
        case measure => have := HG.out; omega
        case rel => exact ⟨k + 1, _, by omega, rfl, by go_num, HH3.out, HO.out.pick _, HV2.out, (wants_pick _ HO.out.share).trans HW.out, HB3.out⟩
      · have hltz : ¬ (k : Int) < (S : Int) := by omega
        have HALL := Lib.hid (even_end HV.out (by rw [sumS_wants HW.out, HSS.out]; omega))
        have hk64 : k ≤ 64 := by omega
        go_wp2_with fail
        go_loopg [9, 10, 11] m (fun gg s _ _ wr2 => ∃ (i : Nat), i ≤ m ∧ gg = m - i ∧ s = .int .i64 i ∧ Held w.heap.size wr2 rb lt ∧ Below w.heap.size w wr2)
        case atStart => exact ⟨0, Nat.zero_le _, by omega, rfl, HH.out, HB.out⟩
        case round =>
          obtain ⟨i, hi, hg2, rfl, hh2, hb2⟩ := hrel
          have HG2 := Lib.hid hg2
          have HH2' := Lib.hid hh2
          have HB2' := Lib.hid hb2
          clear hg2 hh2 hb2
          by_cases hlt2 : i < m
          · have hltz2 : (i : Int) < (m : Int) := by omega
            have hi0 : (0 : Int) ≤ (i : Int) := by omega
            obtain ⟨A', c', hv', _, _, _, hat⟩ := HS.out
            injection hv' with e1 e2 e3; clear e2 e3
            subst e1
            obtain ⟨b, off, hA, hbl, hcells⟩ := hat (by rw [HN.out]; omega)
            subst hA
            obtain ⟨p, hp⟩ := ex_at (xs := qs) (k := i) (by rw [HN.out]; exact hlt2)
            obtain ⟨x, hxm, hxp⟩ := at_want HW.out (HMEM.out p (List.mem_of_getElem? hp))
            have HCELL : Hid (∀ W', Below w.heap.size w W' → PairAt W' b (off + i * 2) ((x.u : Int), (x.s : Int)) ∧ b < W'.heap.size) := fun W' hb => by
              rw [hxp]
              exact ⟨(hcells i p hp).keep hb hbl, Nat.lt_of_lt_of_le hbl hb.size⟩
            have HGT := Lib.hid (Held.got (x.u : Int) HH2'.out (by have := HO.out.len; omega))
            rw [gotN_mem HO.out hxm, HALL.out x hxm] at HGT
            have hgv : gotV (some x.s) = .tuple #[.int .i64 x.s, .bool true] := rfl
            rw [hgv] at HGT
            obtain ⟨⟨c0, c1⟩, hbl2⟩ := HCELL.out _ HB2'.out
            obtain ⟨xu, xs', xg⟩ := x
            simp only at c0 c1 HGT HCELL
            have hne : ((xs' : Int) != (xs' : Int)) = false := by simp
            clear hat hcells hxm hxp hp hgv hbl
            go_wp2_with fail
            refine HGT.out.mono ?_
            rintro e w4 ⟨rfl, hh, hb⟩
            have HH4 := Lib.hid hh
            have HB4 := Lib.hid (HB2'.out.trans hb)
            obtain ⟨⟨d0, d1⟩, hbl4⟩ := HCELL.out _ HB4.out
            clear hh hb
            go_wp2_with fail
            go_roundg (m - (i + 1))
            case measure => have := HG2.out; omega
            case rel => exact ⟨i + 1, by omega, rfl, by go_num, HH4.out, HB4.out⟩
          · have hltz2 : ¬ (i : Int) < (m : Int) := by omega
            go_wp2_with fail
            refine (HAW.out _).mono ?_
            rintro e w5 ⟨rfl, hb⟩
            have HB5 := Lib.hid (HB2'.out.trans (hb.mono HB2'.out.size))
            clear hb
            go_wp2
            go_ret
            exact ⟨rfl, HB5.out⟩
  · have HM := Lib.hid (made_bad f _ qs w HS.out HI.out he)
    have HC := Lib.hid (fun (w' : World) (hb : Below w.heap.size w w') => refCheck15 f _ qs w' (HS.out.keep hb) HI.out)
    have q1 : (newE f qs != 0) = true := by simpa using he
    obtain ⟨E, hE⟩ : ∃ E, newE f qs = E := ⟨_, rfl⟩
    rw [hE] at HC q1
    clear he hE
    go_enter Try.func5, Try.ntmps5
    go_wp2_with fail
    refine HM.out.mono ?_
    rintro e w1 ⟨rfl, hb⟩
    have HB1 := Lib.hid hb
    clear hb
    go_wp2_with fail
    refine (HC.out _ HB1.out).mono ?_
    rintro e w2 ⟨rfl, hb⟩
    have HB2 := Lib.hid (HB1.out.trans (hb.mono HB1.out.size))
    clear hb
    go_wp2_with fail
    refine (HAW.out _).mono ?_
    rintro e w3 ⟨rfl, hb⟩
    have HB3 := Lib.hid (HB2.out.trans (hb.mono HB2.out.size))
    clear hb
    go_wp2
    go_ret
    exact ⟨rfl, HB3.out⟩
end Go.Proofs.Ytngfcgegondmgaa
