/-
  The law AppoMore: it returns true for any total and weights, and writes nothing that was there.
  Conditions: none.
-/
import Derived.Test.YtbmdbjecjiolpaaLawNear
set_option linter.unusedVariables false
namespace Go.Proofs.Ytbmdbjecjiolpaa
open Go.RowKit

theorem gr_none {ws : List Int} (h : Right ws) {i : Nat} (hi : ws.getD i 0 = 0) : ∀ n : Nat, n ≤ 1099511627776 → (gr ws n).getD i 0 = 0
  | 0, _ => by
    simp only [gr, zeros, List.getD_eq_getElem?_getD, List.getElem?_replicate]
    split <;> rfl
  | n + 1, hn => by
    obtain ⟨b, hb, hlt, hwb⟩ := next_gr h (n := n) (by omega)
    rw [gr, hb]
    simp only [bump]
    rw [getD_set _ _ _ _ (by rw [length_gr]; exact hlt), if_neg (fun e => by rw [e, hi] at hwb; exact absurd hwb (by decide)), gr_none h hi n (by omega)]

theorem gr_small {ws : List Int} (h : Right ws) {n : Nat} (hn : n ≤ 1048577) : Small (gr ws n) := by
  refine ⟨by rw [length_gr]; exact h.1, fun x hx => ?_⟩
  obtain ⟨i, _, rfl⟩ := mem_getD hx
  have := fits_gr ws n i
  omega

set_option maxRecDepth 100000 in
set_option maxHeartbeats 2000000 in
theorem moreLaw_out (T : Int) (ws : List Int) (v : Value) (w : World) (h : T < 0 ∨ 1048575 < T) :
    Calls Try.prog 6 #[.int .i64 T, v] w (Ans w) := by
  by_cases q : T < 0 ∨ 1048576 < T
  · have HT := Lib.hid (fun W => total_no T W q)
    clear h q
    go_enter Try.func6, Try.ntmps6
    go_wp2_with (first
      | (go_at_call 12; refine (HT.out _).mono ?_; rintro e w' ⟨rfl, rfl⟩)
      | (go_at_call 13; refine (awake_any _).mono ?_; rintro e w4 ⟨rfl, hb4⟩))
    go_ret
    exact ⟨rfl, hb4⟩
  · have HT := Lib.hid (fun W => total_yes T W (by omega) (by omega))
    have h1 : 1048575 < T := by omega
    clear h q
    go_enter Try.func6, Try.ntmps6
    go_wp2_with (first
      | (go_at_call 12; refine (HT.out _).mono ?_; rintro e w' ⟨rfl, rfl⟩)
      | (go_at_call 13; refine (awake_any _).mono ?_; rintro e w4 ⟨rfl, hb4⟩))
    go_ret
    exact ⟨rfl, hb4⟩

set_option maxRecDepth 100000 in
set_option maxHeartbeats 2000000 in
theorem moreLaw_bad (n : Nat) (ws : List Int) (v : Value) (w : World) (hv : IntsAt w v ws) (hn : n ≤ 1048575) (hr : ¬ Right ws) :
    Calls Try.prog 6 #[.int .i64 n, v] w (Ans w) := by
  have HT := Lib.hid (fun W => total_yes n W (by omega) (by omega))
  have HV := Lib.hid hv
  have HS1 := Lib.hid (fun W hb => seats_bad n ws v W (HV.out.keep hb) (fun h => hr h.2.2))
  have HS2 := Lib.hid (fun W hb => seats_bad ((n : Int) + 1) ws v W (HV.out.keep hb) (fun h => hr h.2.2))
  have HRA := Lib.hid (fun W hb => by have := right_any ws v W (HV.out.keep hb); rw [rightB_false hr] at this; exact this)
  clear hv hr
  go_enter Try.func6, Try.ntmps6
  go_wp2_with (go_at_call 12; refine (HT.out _).mono ?_; rintro e w' ⟨rfl, rfl⟩)
  refine (HS1.out w (Below.refl _ _)).mono ?_
  rintro e w1 ⟨v1, rfl, hi1, hb1⟩
  obtain ⟨A1, c1, rfl, _, _⟩ := hi1
  have HB1 := Lib.hid hb1
  clear hb1
  go_wp2_with fail
  refine (HS2.out w1 HB1.out).mono ?_
  rintro e w2 ⟨v2, rfl, hi2, hb2⟩
  obtain ⟨A2, c2, rfl, _, _⟩ := hi2
  have HB2 := Lib.hid (HB1.out.trans (hb2.mono HB1.out.size))
  clear hb2
  have HRA2 := Lib.hid (HRA.out w2 HB2.out)
  go_wp2_with (first
    | (go_at_call 11; refine HRA2.out.mono ?_; rintro e w' ⟨rfl, rfl⟩)
    | (go_at_call 13; refine (awake_any _).mono ?_; rintro e w4 ⟨rfl, hb4⟩))
  go_ret
  exact ⟨rfl, HB2.out.trans (hb4.mono HB2.out.size)⟩

set_option maxRecDepth 100000 in
set_option maxHeartbeats 4000000 in
theorem moreLaw_ok (n : Nat) (ws : List Int) (v : Value) (w : World) (hv : IntsAt w v ws) (hn : n ≤ 1048575) (hr : Right ws) :
    Calls Try.prog 6 #[.int .i64 n, v] w (Ans w) := by
  have HT := Lib.hid (fun W => total_yes n W (by omega) (by omega))
  have HV := Lib.hid hv
  have HR := Lib.hid hr
  have l64 := hr.1
  have HS1 := Lib.hid (fun W hb => seats_ok n ws v W (HV.out.keep hb) ⟨by omega, by omega, hr⟩)
  have HS2 := Lib.hid (show ∀ W, Below w.heap.size w W → Calls Try.prog 19 #[.int .i64 ((n : Int) + 1), v] W (RetIE (gr ws (n + 1)) 0 W) from fun W hb => seats_ok (n + 1) ws v W (HV.out.keep hb) ⟨by omega, by omega, hr⟩)
  obtain ⟨b, hb, hbl, hwb⟩ := next_gr hr (n := n) (by omega)
  have HNX := Lib.hid hb
  obtain ⟨A, c, rfl, hl, hat⟩ := hv
  clear hat hr hb hwb
  go_enter Try.func6, Try.ntmps6
  go_wp2_with (go_at_call 12; refine (HT.out _).mono ?_; rintro e w' ⟨rfl, rfl⟩)
  refine (HS1.out w (Below.refl _ _)).mono ?_
  rintro e w1 ⟨v1, rfl, hi1, hb1⟩
  have HI1 := Lib.hid hi1
  have HB1 := Lib.hid hb1
  clear hi1 hb1
  go_wp2_with fail
  refine (HS2.out w1 HB1.out).mono ?_
  rintro e w2 ⟨v2, rfl, hi2, hb2⟩
  have hi1 := HI1.out.keep hb2
  have HB2 := Lib.hid (HB1.out.trans (hb2.mono HB1.out.size))
  have hi0 := HV.out.keep HB2.out
  have HNXC := next_any ws (gr ws n) _ v1 w2 hi0 hi1
  rw [HNX.out] at HNXC
  have HI1b := Lib.hid hi1
  have HI2b := Lib.hid hi2
  obtain ⟨A1, c1, rfl, _, _⟩ := hi1
  obtain ⟨A2, c2, rfl, _, _⟩ := hi2
  have L1 := Lib.hid (length_gr ws n)
  have L2 := Lib.hid (length_gr ws (n + 1))
  rw [L1.out] at HI1b HNXC ⊢
  rw [L2.out] at HI2b ⊢
  have HNXC := Lib.hid HNXC
  clear hb2 hi0
  simp only [nextV] at HNXC
  go_wp2_with fail
  refine HNXC.out.mono ?_
  rintro e w3 ⟨rfl, hb3⟩
  have HB3 := Lib.hid (HB2.out.trans (hb3.mono HB2.out.size))
  have HI1c := Lib.hid (HI1b.out.keep hb3)
  have HI2c := Lib.hid (HI2b.out.keep hb3)
  have HI0c := Lib.hid (HV.out.keep HB3.out)
  have SA := refSum_any (gr ws n) _ w3 HI1c.out (gr_small HR.out (by omega))
  rw [sumL_gr HR.out n (by omega)] at SA
  have SA := Lib.hid SA
  have SB := refSum_any (gr ws (n + 1)) _ w3 HI2c.out (gr_small HR.out (by omega))
  rw [sumL_gr HR.out (n + 1) (by omega)] at SB
  have SB := Lib.hid (show Calls Try.prog 16 _ w3 (Ret (.int .i64 ((n : Int) + 1)) w3) from SB)
  have nn1 : ((n : Int) != (n : Int)) = false := by simp
  have nn2 : (((n : Int) + 1) != ((n : Int) + 1)) = false := by simp
  have bl : decide ((ws.length : Int) ≤ (b : Int)) = false := decide_eq_false (by omega)
  clear hb3
  go_wp2_with (go_at_call 16; first | ((with_reducible refine SA.out.mono ?_); rintro e w' ⟨rfl, rfl⟩) | ((with_reducible refine SB.out.mono ?_); rintro e w' ⟨rfl, rfl⟩))
  go_loopg [11] ws.length (fun q s wr => LagLawRel2 ws.length w3 q s wr)
  case atStart => exact ⟨0, Nat.zero_le _, rfl, rfl, Below.refl _ _⟩
  case round =>
    obtain ⟨j, hj, hq, rfl, hbw⟩ := hrel
    have HQ := Lib.hid hq
    have HW := Lib.hid hbw
    clear hq hbw
    by_cases hjl : j < ws.length
    · obtain ⟨x, hx⟩ := ex_at hjl
      obtain ⟨y, hy⟩ := ex_at (xs := gr ws n) (k := j) (by rw [length_gr]; exact hjl)
      obtain ⟨z, hz⟩ := ex_at (xs := gr ws (n + 1)) (k := j) (by rw [length_gr]; exact hjl)
      obtain ⟨x1, x2⟩ := HR.out.at hx
      obtain ⟨y1, y2⟩ := fits_at (fits_gr ws n) hy
      have hzy : z = if b = j then y + 1 else y := by
        have e := getD_set (gr ws n) b j ((gr ws n).getD b 0 + 1) (by rw [length_gr]; exact hbl)
        have e2 : gr ws (n + 1) = (gr ws n).set b ((gr ws n).getD b 0 + 1) := by rw [gr, HNX.out]; rfl
        rw [← e2, getD_of hz, getD_of hy] at e
        rw [e]
        by_cases q : b = j
        · rw [if_pos q, if_pos q, q, getD_of hy]
        · rw [if_neg q, if_neg q]
      have hx0 : x = 0 → y = 0 := fun e => by
        have := gr_none HR.out (i := j) (by rw [getD_of hx, e]) n (by omega)
        rwa [getD_of hy] at this
      have h0 := HI0c.out.open_.2
      have h1 := HI1c.out.open_.2
      have h2 := HI2c.out.open_.2
      obtain ⟨ba, oa, rfl, ha, hca⟩ := h0 (by omega)
      obtain ⟨bb, ob, rfl, hb, hcb⟩ := h1 (by rw [length_gr]; omega)
      obtain ⟨bc, oc, rfl, hc', hcc⟩ := h2 (by rw [length_gr]; omega)
      have c1 : wr.cell? ⟨ba, oa + j, none⟩ = some (.int .i64 x) := (HW.out.cell (p := ⟨ba, oa + j, none⟩) ha).trans (hca j x hx)
      have c2 : wr.cell? ⟨bb, ob + j, none⟩ = some (.int .i64 y) := (HW.out.cell (p := ⟨bb, ob + j, none⟩) hb).trans (hcb j y hy)
      have c3 : wr.cell? ⟨bc, oc + j, none⟩ = some (.int .i64 z) := (HW.out.cell (p := ⟨bc, oc + j, none⟩) hc').trans (hcc j z hz)
      have e1 : IntKind.i64.wrap (y + 1) = y + 1 := IntWalk.i64_in _ (by omega)
      clear hx hy hz hca hcb hcc h0 h1 h2
      by_cases hbj : b = j
      · rw [if_pos hbj] at hzy
        have k1 : ((j : Int) == (b : Int)) = true := by simp; omega
        have k2 : ((j : Int) != (b : Int)) = false := by simp; omega
        have k3 : ((y + 1) != (y + 1)) = false := by simp
        subst hzy
        clear hbj
        by_cases hx0' : x = 0
        · have k4 : (x == 0) = true := by simpa using hx0'
          have k5 : (y != 0) = false := by simpa using hx0 hx0'
          clear hx0 hx0'
          go_wp2_with fail
          go_quiet (fail)
          go_wp2_with fail
          go_roundg (ws.length - (j + 1))
          case measure => have := HQ.out; omega
          case rel => exact ⟨j + 1, by omega, rfl, by go_num, below_drewN HW.out _⟩
        · have k4 : (x == 0) = false := by simpa using hx0'
          clear hx0 hx0'
          go_wp2_with fail
          go_quiet (fail)
          go_wp2_with fail
          go_roundg (ws.length - (j + 1))
          case measure => have := HQ.out; omega
          case rel => exact ⟨j + 1, by omega, rfl, by go_num, below_drewN HW.out _⟩
      · rw [if_neg hbj] at hzy
        have k1 : ((j : Int) == (b : Int)) = false := by simp; omega
        have k2 : ((j : Int) != (b : Int)) = true := by simp; omega
        have k3 : (y != y) = false := by simp
        subst hzy
        clear hbj
        by_cases hx0' : x = 0
        · have k4 : (x == 0) = true := by simpa using hx0'
          have k5 : (z != 0) = false := by simpa using hx0 hx0'
          clear hx0 hx0'
          go_wp2_with fail
          go_quiet (fail)
          go_wp2_with fail
          go_roundg (ws.length - (j + 1))
          case measure => have := HQ.out; omega
          case rel => exact ⟨j + 1, by omega, rfl, by go_num, below_drewN HW.out _⟩
        · have k4 : (x == 0) = false := by simpa using hx0'
          clear hx0 hx0'
          go_wp2_with fail
          go_quiet (fail)
          go_wp2_with fail
          go_roundg (ws.length - (j + 1))
          case measure => have := HQ.out; omega
          case rel => exact ⟨j + 1, by omega, rfl, by go_num, below_drewN HW.out _⟩
    · go_wp2_with (go_at_call 13; refine (awake_any _).mono ?_; rintro e w4 ⟨rfl, hb4⟩)
      go_ret
      exact ⟨rfl, (HB3.out.trans (HW.out.mono HB3.out.size)).trans (hb4.mono (HB3.out.trans (HW.out.mono HB3.out.size)).size)⟩

theorem moreLaw_any (T : Int) (ws : List Int) (v : Value) (w : World) (hv : IntsAt w v ws) (_ : -9223372036854775808 ≤ T) (_ : T ≤ 9223372036854775807) :
    Calls Try.prog 6 #[.int .i64 T, v] w (Ans w) := by
  by_cases h : T < 0 ∨ 1048575 < T
  · exact moreLaw_out T ws v w h
  · obtain ⟨n, rfl⟩ : ∃ n : Nat, T = (n : Int) := ⟨T.toNat, by omega⟩
    by_cases hr : Right ws
    · exact moreLaw_ok n ws v w hv (by omega) hr
    · exact moreLaw_bad n ws v w hv (by omega) hr
end Go.Proofs.Ytbmdbjecjiolpaa
