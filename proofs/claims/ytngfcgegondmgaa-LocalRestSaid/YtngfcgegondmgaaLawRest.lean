/-
  The law of proportion: LocalRest.
  Conditions: the slice reads as wants of ints; the word is below 65536.
-/
import Derived.Test.YtngfcgegondmgaaMade
set_option linter.unusedVariables false
namespace Go.Proofs.Ytngfcgegondmgaa
open Go.RowKit

set_option maxRecDepth 100000 in
set_option maxHeartbeats 4000000 in
theorem rest_law (f : Int) (v : Value) (ps : List Sp) (T : Nat) (w : World) (h : ArgAt w v ps) (hi : IntsS ps) (hT : T < 65536) :
    Calls Try.prog 6 #[.int .i64 f, v, .int .u16 T] w (RetB (.bool true) w) := by
  have HAW := Lib.hid (fun W => awake_any W)
  have harg := h
  obtain ⟨A, c, rfl, hc1, hc2, hnil, _⟩ := h
  have HS := Lib.hid (harg.cut 80 (by decide))
  have HI := Lib.hid (hi.take 80)
  have hm : min (ps.length : Int) 80 = ((min ps.length 80 : Nat) : Int) := by omega
  have hmle : min ps.length 80 ≤ ps.length := Nat.min_le_left _ _
  have hm80 : min ps.length 80 ≤ 80 := Nat.min_le_right _ _
  have HN : Hid ((ps.take 80).length = min ps.length 80) := by show _ = _; rw [List.length_take, Nat.min_comm]
  generalize ps.take 80 = qs at *
  generalize ps.length = n at *
  generalize min n 80 = m at *
  have hmc : (m : Int) ≤ (c : Int) := by omega
  have hm0 : (0 : Int) ≤ (m : Int) := by omega
  clear harg hi
  by_cases he : newE f qs = 0
  · have HE := Lib.hid he
    have HM := Lib.hid (made_ok f _ qs w HS.out HI.out he)
    have hok := new_okL he
    have HOK := Lib.hid hok
    have hev := part_begin (newT qs)
    rw [begin_new] at hev
    have HEV := Lib.hid hev
    have hll := newT_len qs
    obtain ⟨L, hL⟩ : ∃ L, newT qs = L := ⟨_, rfl⟩
    obtain ⟨S, hS⟩ : ∃ S, sumS L = S := ⟨_, rfl⟩
    rw [hL] at HM HOK HEV hok hll
    rw [HN.out] at hll
    have HLL := Lib.hid hll
    have HMEM : Hid (∀ p ∈ qs, p ∈ wantsT L) := fun p hp => by rw [← hL]; exact new_wants HE.out hp
    have hS64 : S ≤ 64 := by rw [← hS]; exact hok.full
    have HSS := Lib.hid hS
    obtain ⟨R, hR⟩ : ∃ R, T % 300 = R := ⟨_, rfl⟩
    have hR1 : R < 300 := by omega
    have hTi : (T : Int) < 65536 := by omega
    have hmod : ((T : Int)).tmod 300 = (R : Int) := by rw [← hR, Int.tmod_eq_emod_of_nonneg (by omega)]; omega
    have HMOD := Lib.hid hmod
    clear he hok hev hL hS hll
    go_enter Try.func6, Try.ntmps6
    go_wp2_with fail
    refine HM.out.mono ?_
    rintro e w1 ⟨rb, rfl, hh, hb⟩
    have HB1 := Lib.hid hb
    have H1 := Lib.hid (Held.total hh HOK.out)
    rw [HSS.out] at H1
    clear hh hb
    go_wp2_with fail
    refine H1.out.mono ?_
    rintro e w2 ⟨rfl, hh, hb⟩
    have HB2 := Lib.hid (HB1.out.trans hb)
    have HH2 := Lib.hid hh
    clear hh hb
    go_wp2_with fail
    go_loopg [10, 11, 12, 13, 14, 15, 16] R (fun gg s _ _ _ _ _ _ wr => ∃ (k : Nat) (lt : List Lm), k ≤ R ∧ gg = R - k ∧ s = .int .i64 ((k + 1 : Nat) : Int) ∧ Held w.heap.size wr rb lt ∧ OkL k lt ∧ Part k lt ∧ wantsT lt = wantsT L ∧ lt.length = m ∧ Below w.heap.size w wr)
    case atStart => exact ⟨0, L, Nat.zero_le _, by omega, rfl, HH2.out, HOK.out, HEV.out, rfl, HLL.out, HB2.out⟩
    case round =>
      obtain ⟨k, lt, hk, hg, rfl, hh, hok, hev, hw, hll, hbw⟩ := hrel
      have HG := Lib.hid hg
      have HH := Lib.hid hh
      have HO := Lib.hid hok
      have HV := Lib.hid hev
      have HW := Lib.hid hw
      have HLL2 := Lib.hid hll
      have HB := Lib.hid hbw
      clear hg hh hok hev hw hll hbw
      obtain ⟨t, ht⟩ : ∃ t, k + 1 = t := ⟨_, rfl⟩
      rw [ht]
      have HT := Lib.hid ht
      have ht301 : (t : Int) ≤ 301 := by omega
      have ht0 : (1 : Int) ≤ (t : Int) := by omega
      have hmod2 := HMOD.out
      by_cases hlt : k < R
      · by_cases hm1 : 0 < m
        · have hltz : (t : Int) ≤ (R : Int) := by omega
          have hmz : (0 : Int) < (m : Int) := by omega
          obtain ⟨j, x, hn, hev2⟩ := part_pick HO.out.share HV.out (by rw [HLL2.out]; exact hm1)
          have HV2 := Lib.hid hev2
          have HP := Lib.hid (Held.pick HH.out HO.out (by omega) (IntsAt.nil wr))
          have hpv : pickV (nextT (offB []) lt) = .tuple #[.int .i64 x.u, .bool true] := by rw [off_none, hn]; rfl
          rw [hpv] at HP
          clear hn hev2 hpv
          go_wp2_with fail
          refine HP.out.mono ?_
          rintro e w3 ⟨rfl, hh, hb⟩
          have HH3 := Lib.hid hh
          have HB3 := Lib.hid (HB.out.trans hb)
          have HO3 : Hid (OkL t (pickT (offB []) lt)) := by show _; rw [← HT.out]; exact HO.out.pick _
          have HV3 : Hid (Part t (pickT (offB []) lt)) := by show _; rw [← HT.out]; exact HV2.out
          have HW3 : Hid (wantsT (pickT (offB []) lt) = wantsT L) := (wants_pick _ HO.out.share).trans HW.out
          have HLL3 : Hid ((pickT (offB []) lt).length = m) := (len_pick _ lt).trans HLL2.out
          clear hh hb
          generalize pickT (offB []) lt = l3 at *
          have HS3 : Hid (sumS l3 = S) := by show _ = _; rw [sumS_wants HW3.out, HSS.out]
          clear HP
          go_wp2_with fail
          go_loopg [13, 14, 15, 16] m (fun gg s _ _ _ wr2 => ∃ (i : Nat), i ≤ m ∧ gg = m - i ∧ s = .int .i64 i ∧ Held w.heap.size wr2 rb l3 ∧ Below w.heap.size w wr2)
          case atStart => exact ⟨0, Nat.zero_le _, by omega, rfl, HH3.out, HB3.out⟩
          case round =>
            obtain ⟨i, hi, hg2, rfl, hh2, hb2⟩ := hrel
            have HG2 := Lib.hid hg2
            have HH2' := Lib.hid hh2
            have HB2' := Lib.hid hb2
            clear hg2 hh2 hb2
            by_cases hlt2 : i < m
            · have hltz2 : (i : Int) < (m : Int) := by omega
              have hi0 : (0 : Int) ≤ (i : Int) := by omega
              obtain ⟨A', c', hv', _, _, _, hat⟩ := HS.out
              injection hv' with e1 e2 e3; clear e2 e3
              subst e1
              obtain ⟨b, off, hA, hbl, hcells⟩ := hat (by rw [HN.out]; omega)
              subst hA
              obtain ⟨p, hp⟩ := ex_at (xs := qs) (k := i) (by rw [HN.out]; exact hlt2)
              obtain ⟨x, hxm, hxp⟩ := at_want HW3.out (HMEM.out p (List.mem_of_getElem? hp))
              have HCELL : Hid (∀ W', Below w.heap.size w W' → PairAt W' b (off + i * 2) ((x.u : Int), (x.s : Int)) ∧ b < W'.heap.size) := fun W' hb => by
                rw [hxp]
                exact ⟨(hcells i p hp).keep hb hbl, Nat.lt_of_lt_of_le hbl hb.size⟩
              have HGT := Lib.hid (Held.got (x.u : Int) HH2'.out (by have := HO3.out.len; omega))
              rw [gotN_mem HO3.out hxm] at HGT
              have hgv : gotV (some x.g) = .tuple #[.int .i64 x.g, .bool true] := rfl
              rw [hgv] at HGT
              obtain ⟨kx, hkx, hkx2⟩ := List.getElem_of_mem hxm
              obtain ⟨r1, r2⟩ := part_end HO3.out.share HV3.out (i := kx) (x := x) (by rw [List.getElem?_eq_getElem hkx, hkx2])
              rw [HS3.out, HLL3.out] at r1 r2
              have hg1 := HO3.out.got x hxm
              have hs1 := HO3.out.s64 hxm
              obtain ⟨⟨c0, c1⟩, hbl2⟩ := HCELL.out _ HB2'.out
              obtain ⟨xu, xs', xg⟩ := x
              simp only at c0 c1 HGT HCELL r1 r2 hg1 hs1
              have b1 : xg * S ≤ 301 * 64 := Nat.mul_le_mul (by omega) hS64
              have b2 : xs' * t ≤ 64 * 301 := Nat.mul_le_mul hs1 (by omega)
              have b3 : (m - 1) * S ≤ 80 * 64 := Nat.mul_le_mul (by omega) hS64
              obtain ⟨a1, ha1⟩ : ∃ a, xg * S = a := ⟨_, rfl⟩
              obtain ⟨a2, ha2⟩ : ∃ a, xs' * t = a := ⟨_, rfl⟩
              obtain ⟨q, hq⟩ : ∃ q, (m - 1) * S = q := ⟨_, rfl⟩
              obtain ⟨m1, hm1'⟩ : ∃ m1, m - 1 = m1 := ⟨_, rfl⟩
              rw [ha1, ha2, hq] at r1 r2
              rw [ha1] at b1
              rw [ha2] at b2
              rw [hq] at b3
              rw [hm1'] at hq
              have z1 : (xg : Int) * (S : Int) = (a1 : Int) := by rw [← Int.natCast_mul, ha1]
              have z2 : (xs' : Int) * (t : Int) = (a2 : Int) := by rw [← Int.natCast_mul, ha2]
              obtain ⟨d, hd⟩ : ∃ d : Int, (a1 : Int) - (a2 : Int) = d := ⟨_, rfl⟩
              have z4 : (m : Int) - 1 = (m1 : Int) := by omega
              have z5 : (m1 : Int) * (S : Int) = (q : Int) := by rw [← Int.natCast_mul, hq]
              have b4 : d ≤ 30000 := by omega
              have b5 : -30000 ≤ d := by omega
              have b6 : (q : Int) ≤ 6000 := by omega
              have b7 : (a1 : Int) ≤ 30000 := by omega
              have b8 : (a2 : Int) ≤ 30000 := by omega
              have b9 : (m1 : Int) ≤ 80 := by omega
              have t1 : decide ((q : Int) < d) = false := decide_eq_false (by omega)
              have t2 : decide ((q : Int) < -d) = false := decide_eq_false (by omega)
              have t3 : d ≤ (q : Int) := by omega
              have t4 : -d ≤ (q : Int) := by omega
              clear hat hcells hxm hxp hp hgv hbl hkx hkx2 r1 r2 hg1 ha1 ha2 hq hm1' b1 b2 b3
              go_wp2_with fail
              refine HGT.out.mono ?_
              rintro e w4 ⟨rfl, hh, hb⟩
              have HH4 := Lib.hid hh
              have HB4 := Lib.hid (HB2'.out.trans hb)
              obtain ⟨⟨d0, d1⟩, hbl4⟩ := HCELL.out _ HB4.out
              clear hh hb
              go_wp2_with fail
              go_roundg (m - (i + 1))
              case measure => have := HG2.out; omega
              case rel => exact ⟨i + 1, by omega, rfl, by go_num, HH4.out, HB4.out⟩
            · have hltz2 : ¬ (i : Int) < (m : Int) := by omega
              go_wp2_with fail
              go_roundg (R - (k + 1))
              case measure => have := HG.out; omega
              case rel => exact ⟨k + 1, l3, by omega, rfl, (by rw [← HT.out]; go_num), HH2'.out, (by rw [HT.out]; exact HO3.out), (by rw [HT.out]; exact HV3.out), HW3.out, HLL3.out, HB2'.out⟩
        · have hltz : (t : Int) ≤ (R : Int) := by omega
          have hmz : ¬ (0 : Int) < (m : Int) := by omega
          have hmz2 : (m : Int) ≤ 0 := by omega
          go_wp2_with fail
          refine (HAW.out _).mono ?_
          rintro e w5 ⟨rfl, hb⟩
          have HB5 := Lib.hid (HB.out.trans (hb.mono HB.out.size))
          clear hb
          go_wp2
          go_ret
          exact ⟨rfl, HB5.out⟩
      · have hltz : ¬ (t : Int) ≤ (R : Int) := by omega
        go_wp2_with fail
        refine (HAW.out _).mono ?_
        rintro e w5 ⟨rfl, hb⟩
        have HB5 := Lib.hid (HB.out.trans (hb.mono HB.out.size))
        clear hb
        go_wp2
        go_ret
        exact ⟨rfl, HB5.out⟩
  · have HM := Lib.hid (made_bad f _ qs w HS.out HI.out he)
    have HC := Lib.hid (fun (w' : World) (hb : Below w.heap.size w w') => refCheck15 f _ qs w' (HS.out.keep hb) HI.out)
    have q1 : (newE f qs != 0) = true := by simpa using he
    obtain ⟨E, hE⟩ : ∃ E, newE f qs = E := ⟨_, rfl⟩
    rw [hE] at HC q1
    clear he hE
    go_enter Try.func6, Try.ntmps6
    go_wp2_with fail
    refine HM.out.mono ?_
    rintro e w1 ⟨rfl, hb⟩
    have HB1 := Lib.hid hb
    clear hb
    go_wp2_with fail
    refine (HC.out _ HB1.out).mono ?_
    rintro e w2 ⟨rfl, hb⟩
    have HB2 := Lib.hid (HB1.out.trans (hb.mono HB1.out.size))
    clear hb
    go_wp2_with fail
    refine (HAW.out _).mono ?_
    rintro e w3 ⟨rfl, hb⟩
    have HB3 := Lib.hid (HB2.out.trans (hb.mono HB2.out.size))
    clear hb
    go_wp2
    go_ret
    exact ⟨rfl, HB3.out⟩
end Go.Proofs.Ytngfcgegondmgaa
