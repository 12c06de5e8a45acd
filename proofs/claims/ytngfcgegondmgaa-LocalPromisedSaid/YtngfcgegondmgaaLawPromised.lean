/-
  The law of the guarantee: LocalPromised.
  Conditions: the slices read as wants of ints, as rows of ints; the number is a byte.
-/
import Derived.Test.YtngfcgegondmgaaAside
set_option linter.unusedVariables false
namespace Go.Proofs.Ytngfcgegondmgaa
open Go.RowKit Go.Maps

def everN (ever : Int → Bool) (u : Nat) : Bool := ever (u : Int)

set_option maxRecDepth 100000 in
set_option maxHeartbeats 4000000 in
theorem promised_law (f : Int) (v : Value) (ps : List Sp) (v2 : Value) (ls : List (Value × List Int)) (T : Nat) (w : World) (h : ArgAt w v ps) (hi : IntsS ps) (hr : RowsAt w v2 ls) (hT : T < 256) :
    Calls Try.prog 4 #[.int .i64 f, v, v2, .int .u8 T] w (RetB (.bool true) w) := by
  have HRW := Lib.hid hr
  obtain ⟨RA, rc, rfl, hrc1, hrc2, _, _⟩ := hr
  obtain ⟨rn, hrn⟩ : ∃ rn, ls.length = rn := ⟨_, rfl⟩
  rw [hrn] at hrc1 HRW ⊢
  have HRN := Lib.hid hrn
  have hrn63 : (rn : Int) ≤ 9223372036854775807 := by omega
  clear hrn
  have HAW := Lib.hid (fun W => awake_any W)
  have harg := h
  obtain ⟨A, c, rfl, hc1, hc2, hnil, _⟩ := h
  have HS := Lib.hid (harg.cut 80 (by decide))
  have HI := Lib.hid (hi.take 80)
  have hm : min (ps.length : Int) 80 = ((min ps.length 80 : Nat) : Int) := by omega
  have hmle : min ps.length 80 ≤ ps.length := Nat.min_le_left _ _
  have hm80 : min ps.length 80 ≤ 80 := Nat.min_le_right _ _
  have HN : Hid ((ps.take 80).length = min ps.length 80) := by show _ = _; rw [List.length_take, Nat.min_comm]
  generalize ps.take 80 = qs at *
  generalize ps.length = n at *
  generalize min n 80 = m at *
  have hmc : (m : Int) ≤ (c : Int) := by omega
  have hm0 : (0 : Int) ≤ (m : Int) := by omega
  clear harg hi
  by_cases he : newE f qs = 0
  · have HE := Lib.hid he
    have HM := Lib.hid (made_ok f _ qs w HS.out HI.out he)
    have hok := new_okL he
    have HOK := Lib.hid hok
    have hev : Prom (everN fun _ => false) 0 (newT qs) := by
      have := prom_begin (everN fun _ => false) (newT qs)
      rwa [begin_new] at this
    have HEV := Lib.hid hev
    obtain ⟨L, hL⟩ : ∃ L, newT qs = L := ⟨_, rfl⟩
    obtain ⟨S, hS⟩ : ∃ S, sumS L = S := ⟨_, rfl⟩
    rw [hL] at HM HOK HEV hok
    have HMEM : Hid (∀ p ∈ qs, p ∈ wantsT L) := fun p hp => by rw [← hL]; exact new_wants HE.out hp
    have hS64 : S ≤ 64 := by rw [← hS]; exact hok.full
    have HSS := Lib.hid hS
    obtain ⟨M, hM⟩ : ∃ M, T % 40 = M := ⟨_, rfl⟩
    have hM1 : M < 40 := by omega
    have hTi : (T : Int) < 256 := by omega
    have hmod : ((T : Int)).tmod 40 = (M : Int) := by rw [← hM, Int.tmod_eq_emod_of_nonneg (by omega)]; omega
    obtain ⟨N, hNN⟩ : ∃ N, S + M = N := ⟨_, rfl⟩
    have hN1 : (S : Int) + (M : Int) = (N : Int) := by omega
    have hN104 : N ≤ 104 := by omega
    have HMOD := Lib.hid hmod
    have HSN := Lib.hid hNN
    clear he hok hev hL hS hM hNN hmod
    go_enter Try.func4, Try.ntmps4
    go_wp2_with fail
    refine HM.out.mono ?_
    rintro e w1 ⟨rb, rfl, hh, hb⟩
    have HB1 := Lib.hid hb
    have HH1 := Lib.hid hh
    have HSZ1 : Hid (w.heap.size ≤ w1.heap.size) := hb.size
    have hoff := off_new w1
    obtain ⟨mb, hmb⟩ : ∃ mb, w1.heap.size = mb := ⟨_, rfl⟩
    have hb2 : Below w1.heap.size w1 (w1.alloc (.map #[] 0)) := (Below.refl _ _).alloc (Nat.le_refl _) _
    obtain ⟨w2, hw2⟩ : ∃ w2, w1.alloc (.map #[] 0) = w2 := ⟨_, rfl⟩
    have HA2 : Hid (HeldA w.heap.size (fun k => k = mb) w2 rb L) := hh.with_ (by rw [← hw2]; exact hb2) fun k hk => by
      subst hk
      rw [← hmb, ← hw2]
      exact ⟨Nat.le_refl _, by simp⟩
    have hmk : (Instr.makeMap 55 none).run Try.prog w1 = .ok (.map (some mb)) w2 := by rw [← hw2, ← hmb]; rfl
    rw [hw2] at hoff hb2
    rw [hmb] at hoff
    have HO2 := Lib.hid hoff
    have HB2 := Lib.hid (hb.trans (hb2.mono hb.size))
    have HMB : Hid (w.heap.size ≤ mb) := by rw [← hmb]; exact hb.size
    clear hh hb hoff hb2
    clear hw2 hmb
    go_wp2_with fail
    clear hmk
    go_loopg [12, 13, 14] N (fun gg s _ _ wr => ∃ (k : Nat) (lt : List Lm) (ever : Int → Bool) (cnt : Nat) (D : DataW Unit), k ≤ N ∧ gg = N - k ∧ s = .int .i64 k ∧ HeldA w.heap.size (fun k => k = mb) wr rb lt ∧ OkL k lt ∧ Prom (everN ever) k lt ∧ wantsT lt = wantsT L ∧ OffAt wr mb cnt ever D ∧ cnt ≤ 40 * k ∧ Below w.heap.size w wr)
    case atStart => exact ⟨0, L, _, 0, _, Nat.zero_le _, by omega, rfl, HA2.out, HOK.out, HEV.out, rfl, HO2.out, Nat.zero_le _, HB2.out⟩
    case round =>
      obtain ⟨k, lt, ever, cnt, D, hk, hg, rfl, hh, hok, hev, hw, hof, hcnt, hbw⟩ := hrel
      have HG := Lib.hid hg
      have HH := Lib.hid hh
      have HO := Lib.hid hok
      have HV := Lib.hid hev
      have HW := Lib.hid hw
      have HOF := Lib.hid hof
      have HCN := Lib.hid hcnt
      have HB := Lib.hid hbw
      have HSK : Hid (sumS lt = S) := by show _ = _; rw [sumS_wants hw, HSS.out]
      have HT0 := Lib.hid (hh.total hok)
      rw [HSK.out] at HT0
      clear hg hh hok hev hw hof hcnt hbw
      go_wp2_with fail
      refine HT0.out.mono ?_
      rintro e w3 ⟨rfl, hh, hb, hsame⟩
      have HA3 := Lib.hid hh
      have HB3 := Lib.hid (HB.out.trans hb)
      have HOF3 := Lib.hid (HOF.out.keep (hsame mb rfl))
      have hmod := HMOD.out
      clear hh hb hsame
      by_cases hlt : k < N
      · have hltz : (k : Int) < (N : Int) := by omega
        have hk0 : (0 : Int) ≤ (k : Int) := by omega
        by_cases hro : k < rn
        · have hroz : (k : Int) < (rn : Int) := by omega
          obtain ⟨RA', rc', hv', q1, q2, q3, q4⟩ := HRW.out
          injection hv' with e1 e2 e3; clear e2 e3
          subst e1
          obtain ⟨b, off, hA, hbl, hcells⟩ := q3 (by rw [HRN.out]; omega)
          subst hA
          obtain ⟨p, hp⟩ : ∃ p, ls[k]? = some p := ⟨ls[k]'(by rw [HRN.out]; exact hro), List.getElem?_eq_getElem _⟩
          obtain ⟨hpi, hpk⟩ := q4 p (List.mem_of_getElem? hp)
          have c0 := (HB3.out.cell (p := ⟨b, off + k, none⟩) hbl).trans (hcells k p hp)
          have hbl3 := Nat.lt_of_lt_of_le hbl HB3.out.size
          obtain ⟨u, xs0⟩ := p
          obtain ⟨OA, oc, hu⟩ := hpi.form
          simp only at hu hpi hpk c0
          subst hu
          obtain ⟨_, _, hu', hoc, hoc2, _⟩ := id hpi
          injection hu' with e1 e2 e3; subst e3
          clear e1 e2 q1 q2 q3 q4 hcells hp
          obtain ⟨n0, hn0⟩ : ∃ n0, xs0.length = n0 := ⟨_, rfl⟩
          rw [hn0] at hpi hoc c0
          have hmn : min (n0 : Int) 40 = ((min n0 40 : Nat) : Int) := by omega
          obtain ⟨on, hon⟩ : ∃ on, min n0 40 = on := ⟨_, rfl⟩
          rw [hon] at hmn
          have hon40 : on ≤ 40 := by omega
          have hoz : (on : Int) ≤ (oc : Int) := by omega
          have hoz0 : (0 : Int) ≤ (on : Int) := by omega
          have hoc3 : (oc : Int) ≤ 9223372036854775807 := by omega
          have HX : Hid (IntsAt w (.slice OA on oc) (xs0.take on)) := hpi.cut (by omega)
          have HXL : Hid ((xs0.take on).length = on) := by show _ = _; rw [List.length_take]; omega
          have HXO : Hid (∀ x ∈ xs0.take on, IntOk x) := fun x hx => hpk x (List.mem_of_mem_take hx)
          generalize xs0.take on = xs at *
          clear hpi hpk hn0 hon hoc
          go_wp2_with fail
          go_quiet (fail)
          have HA4 := Lib.hid (HA3.out.below (below_drewN (Below.refl _ _) nq))
          have HB4 := Lib.hid (below_drewN HB3.out nq)
          have HOF4 : Hid (OffAt (w3.drewN nq) mb cnt ever D) := HOF3.out.keep rfl
          generalize w3.drewN nq = w4 at *
          clear c0 hbl3
          go_wp2_with fail
          go_loopg [14] on (fun gg s wr2 => ∃ (i : Nat) (ev : Int → Bool) (cn : Nat) (D2 : DataW Unit), i ≤ on ∧ gg = on - i ∧ s = .int .i64 i ∧ HeldA w.heap.size (fun k => k = mb) wr2 rb lt ∧ OffAt wr2 mb cn ev D2 ∧ cn ≤ 40 * k + i ∧ (∀ q, ever q = true → ev q = true) ∧ (∀ (j : Nat) (q : Int), j < i → xs[j]? = some q → ev q = true) ∧ Below w.heap.size w wr2)
          case atStart => exact ⟨0, ever, cnt, D, Nat.zero_le _, by omega, rfl, HA4.out, HOF4.out, HCN.out, fun q h => h, fun j q hj => absurd hj (Nat.not_lt_zero _), HB4.out⟩
          case round =>
            obtain ⟨i, ev, cn, D2, hi, hg2, rfl, hh2, hof2, hcn2, hev1, hev2, hb2⟩ := hrel
            have HG2 := Lib.hid hg2
            have HA5 := Lib.hid hh2
            have HOF5 := Lib.hid hof2
            have HCN5 := Lib.hid hcn2
            have HE1 := Lib.hid hev1
            have HE2 := Lib.hid hev2
            have HB5 := Lib.hid hb2
            clear hg2 hh2 hof2 hcn2 hev1 hev2 hb2
            by_cases hlt2 : i < on
            · have hltz2 : (i : Int) < (on : Int) := by omega
              have hi0 : (0 : Int) ≤ (i : Int) := by omega
              obtain ⟨_, _, hv', _, _, hat⟩ := HX.out.keep HB5.out
              injection hv' with e1 e2 e3; clear e2 e3
              obtain ⟨b', off', hA, hbl', hcells⟩ := hat (by rw [HXL.out]; omega)
              rw [← e1] at hA
              subst hA
              clear e1
              obtain ⟨q, hq⟩ := exI_at (xs := xs) (k := i) (by rw [HXL.out]; exact hlt2)
              have c0 := hcells i q hq
              have hqo := HXO.out q (List.mem_of_getElem? hq)
              have HQ := Lib.hid hq
              have HKEY := Lib.hid (key_int q hqo.1 hqo.2)
              have hcl : cn < maxLen := by have := HCN5.out; unfold maxLen; omega
              have HCL := Lib.hid hcl
              clear hat hcells hq hqo hcl
              go_wp2_with (at_mapUpdate; refine wpList_mapUpdate_own _ rfl _ _ _ 55 rfl 3 4 keyedInt Try.underlying55 _ mb cn D2 rfl HOF5.out.1 HCL.out _ _ (.int .i64 q) rfl rfl HKEY.out (.lit (.bool true)) [] (plainElem_bool Try.underlying4 true) ?_)
              intro w6 hown6 hg6
              have HOF6 := Lib.hid (HOF5.out.mark hown6)
              have HA6 : Hid (HeldA w.heap.size (fun k => k = mb) w6 rb lt) := HA5.out.other (b := mb) rfl hg6.size fun k hk hne => hg6.block k hk (fun e => hne (Option.some.inj e))
              have HB6 : Hid (Below w.heap.size w w6) := HB5.out.trans ⟨hg6.os, hg6.tape, hg6.output, hg6.size, fun k hk => hg6.block k (by have := HB5.out.size; omega) (fun e => by have h5 := HMB.out; have h4 := Option.some.inj e; omega)⟩
              clear hown6 hg6
              go_wp2_with fail
              go_roundg (on - (i + 1))
              case measure => have := HG2.out; omega
              case rel =>
                refine ⟨i + 1, _, _, _, by omega, rfl, by go_num, HA6.out, HOF6.out, by have := HCN5.out; omega, fun x hx => mark_old (HE1.out x hx), fun j x hj hx => ?_, HB6.out⟩
                by_cases e : j = i
                · subst e
                  have := HQ.out
                  rw [this] at hx
                  rw [← Option.some.inj hx]
                  exact mark_new _ _
                · exact mark_old (HE2.out j x (by omega) hx)
            · have hltz2 : ¬ (i : Int) < (on : Int) := by omega
              have HP := Lib.hid (HA5.out.pick HO.out (by omega) (HX.out.keep HB5.out))
              have HV2 : Hid (Prom (everN ev) (k + 1) (pickT (offB xs) lt)) := prom_pick HO.out.share HV.out (fun u hu => HE1.out _ hu) (fun u hu => by
                obtain ⟨j, hj⟩ := has_mem hu
                exact HE2.out j _ (by have := (List.getElem?_eq_some_iff.1 hj).1; have := HXL.out; omega) hj)
              obtain ⟨pv, hpv⟩ : ∃ pv, pickV (nextT (offB xs) lt) = pv := ⟨_, rfl⟩
              rw [hpv] at HP
              clear hpv
              go_wp2_with fail
              refine HP.out.mono ?_
              rintro e w7 ⟨rfl, hh, hb, hsame⟩
              have HA7 := Lib.hid hh
              have HB7 := Lib.hid (HB5.out.trans hb)
              have HOF7 := Lib.hid (HOF5.out.keep (hsame mb rfl))
              clear hh hb hsame
              go_wp2_with fail
              go_roundg (N - (k + 1))
              case measure => have := HG.out; omega
              case rel => exact ⟨k + 1, _, ev, cn, D2, by omega, rfl, by go_num, HA7.out, HO.out.pick _, HV2.out, (wants_pick _ HO.out.share).trans HW.out, HOF7.out, by have := HCN5.out; omega, HB7.out⟩
        · have hroz : ¬ (k : Int) < (rn : Int) := by omega
          go_wp2_with fail
          go_loopg [14] 0 (fun gg s wr2 => gg = 0 ∧ s = .int .i64 0 ∧ wr2 = w3)
          case atStart => exact ⟨rfl, rfl, rfl⟩
          case round =>
            obtain ⟨hg2, rfl, hw3⟩ := hrel
            subst hw3
            have HP := Lib.hid (HA3.out.pick HO.out (by omega) (IntsAt.nil wr))
            have HV2 : Hid (Prom (everN ever) (k + 1) (pickT (offB []) lt)) := prom_pick HO.out.share HV.out (fun u hu => hu) (fun u hu => by cases hu)
            obtain ⟨pv, hpv⟩ : ∃ pv, pickV (nextT (offB []) lt) = pv := ⟨_, rfl⟩
            rw [hpv] at HP
            clear hpv
            go_wp2_with fail
            refine HP.out.mono ?_
            rintro e w7 ⟨rfl, hh, hb, hsame⟩
            have HA7 := Lib.hid hh
            have HB7 := Lib.hid (HB3.out.trans hb)
            have HOF7 := Lib.hid (HOF3.out.keep (hsame mb rfl))
            clear hh hb hsame
            go_wp2_with fail
            go_roundg (N - (k + 1))
            case measure => have := HG.out; omega
            case rel => exact ⟨k + 1, _, ever, cnt, D, by omega, rfl, by go_num, HA7.out, HO.out.pick _, HV2.out, (wants_pick _ HO.out.share).trans HW.out, HOF7.out, by have := HCN.out; omega, HB7.out⟩
      · have hltz : ¬ (k : Int) < (N : Int) := by omega
        have HALL : Hid (∀ x ∈ lt, everN ever x.u = false → x.s ≤ x.g) := fun x hx hu => prom_end HV.out (by have := HSK.out; have := HSN.out; omega) hx hu
        go_wp2_with fail
        go_loopg [15, 16, 17] m (fun gg s _ _ wr2 => ∃ (i : Nat), i ≤ m ∧ gg = m - i ∧ s = .int .i64 i ∧ HeldA w.heap.size (fun k => k = mb) wr2 rb lt ∧ OffAt wr2 mb cnt ever D ∧ Below w.heap.size w wr2)
        case atStart => exact ⟨0, Nat.zero_le _, by omega, rfl, HA3.out, HOF3.out, HB3.out⟩
        case round =>
          obtain ⟨i, hi, hg2, rfl, hh2, hof2, hb2⟩ := hrel
          have HG2 := Lib.hid hg2
          have HH2' := Lib.hid hh2
          have HOF5 := Lib.hid hof2
          have HB2' := Lib.hid hb2
          clear hg2 hh2 hof2 hb2
          by_cases hlt2 : i < m
          · have hltz2 : (i : Int) < (m : Int) := by omega
            have hi0 : (0 : Int) ≤ (i : Int) := by omega
            obtain ⟨A', c', hv', _, _, _, hat⟩ := HS.out
            injection hv' with e1 e2 e3; clear e2 e3
            subst e1
            obtain ⟨b, off, hA, hbl, hcells⟩ := hat (by rw [HN.out]; omega)
            subst hA
            obtain ⟨p, hp⟩ := ex_at (xs := qs) (k := i) (by rw [HN.out]; exact hlt2)
            obtain ⟨x, hxm, hxp⟩ := at_want HW.out (HMEM.out p (List.mem_of_getElem? hp))
            have HCELL : Hid (∀ W', Below w.heap.size w W' → PairAt W' b (off + i * 2) ((x.u : Int), (x.s : Int)) ∧ b < W'.heap.size) := fun W' hb => by
              rw [hxp]
              exact ⟨(hcells i p hp).keep hb hbl, Nat.lt_of_lt_of_le hbl hb.size⟩
            have HGT := Lib.hid (HH2'.out.got (x.u : Int) (by have := HO.out.len; omega))
            rw [gotN_mem HO.out hxm] at HGT
            have hgv : gotV (some x.g) = .tuple #[.int .i64 x.g, .bool true] := rfl
            rw [hgv] at HGT
            have hxu := (HO.out.unit x hxm).2
            have HXS := Lib.hid (HALL.out x hxm)
            obtain ⟨⟨c0, c1⟩, hbl2⟩ := HCELL.out _ HB2'.out
            obtain ⟨xu, xs', xg⟩ := x
            simp only at c0 c1 HGT HCELL hxu HXS
            unfold everN at HXS
            clear hat hcells hxm hxp hp hgv hbl
            go_wp2_with fail
            refine HGT.out.mono ?_
            rintro e w4 ⟨rfl, hh, hb, hsame⟩
            have HH4 := Lib.hid hh
            have HB4 := Lib.hid (HB2'.out.trans hb)
            have HOF6 := Lib.hid (HOF5.out.keep (hsame mb rfl))
            obtain ⟨⟨d0, d1⟩, hbl4⟩ := HCELL.out _ HB4.out
            have hlook := HOF6.out.look (xu : Int) (by omega) (by omega)
            clear hh hb hsame
            cases hev : ever (xu : Int) with
            | true =>
              rw [hev] at hlook
              go_wp2_with fail
              go_roundg (m - (i + 1))
              case measure => have := HG2.out; omega
              case rel => exact ⟨i + 1, by omega, rfl, by go_num, HH4.out, HOF6.out, HB4.out⟩
            | false =>
              rw [hev] at hlook
              have hge := HXS.out hev
              have hge2 : decide ((xg : Int) < (xs' : Int)) = false := decide_eq_false (by omega)
              have hge3 : (xs' : Int) ≤ (xg : Int) := by omega
              go_wp2_with fail
              go_roundg (m - (i + 1))
              case measure => have := HG2.out; omega
              case rel => exact ⟨i + 1, by omega, rfl, by go_num, HH4.out, HOF6.out, HB4.out⟩
          · have hltz2 : ¬ (i : Int) < (m : Int) := by omega
            go_wp2_with fail
            refine (HAW.out _).mono ?_
            rintro e w5 ⟨rfl, hb⟩
            have HB5 := Lib.hid (HB2'.out.trans (hb.mono HB2'.out.size))
            clear hb
            go_wp2
            go_ret
            exact ⟨rfl, HB5.out⟩
  · have HM := Lib.hid (made_bad f _ qs w HS.out HI.out he)
    have HC := Lib.hid (fun (w' : World) (hb : Below w.heap.size w w') => refCheck15 f _ qs w' (HS.out.keep hb) HI.out)
    have q1 : (newE f qs != 0) = true := by simpa using he
    obtain ⟨E, hE⟩ : ∃ E, newE f qs = E := ⟨_, rfl⟩
    rw [hE] at HC q1
    clear he hE
    go_enter Try.func4, Try.ntmps4
    go_wp2_with fail
    refine HM.out.mono ?_
    rintro e w1 ⟨rfl, hb⟩
    have HB1 := Lib.hid hb
    clear hb
    go_wp2_with fail
    refine (HC.out _ HB1.out).mono ?_
    rintro e w2 ⟨rfl, hb⟩
    have HB2 := Lib.hid (HB1.out.trans (hb.mono HB1.out.size))
    clear hb
    go_wp2_with fail
    refine (HAW.out _).mono ?_
    rintro e w3 ⟨rfl, hb⟩
    have HB3 := Lib.hid (HB2.out.trans (hb.mono HB2.out.size))
    clear hb
    go_wp2
    go_ret
    exact ⟨rfl, HB3.out⟩
end Go.Proofs.Ytngfcgegondmgaa
