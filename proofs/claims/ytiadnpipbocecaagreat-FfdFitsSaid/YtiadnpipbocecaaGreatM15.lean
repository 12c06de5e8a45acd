/-
  rightPlaces of the program.
  Conditions: the slice reads as places; the numbers are of their kinds.
-/
import Derived.Test.YtiadnpipbocecaaGreatM05
import Derived.Test.YtiadnpipbocecaaGreatM14
import Derived.Test.YtiadnpipbocecaaGreatM04

/-
  Room of the document.
  Conditions: the slice reads as places; the numbers are small.
-/
set_option linter.unusedVariables false
namespace Go.Proofs.YtiadnpipbocecaaGreat
open Go.RowKit Go.Sort

set_option maxRecDepth 100000 in
set_option maxHeartbeats 2000000 in
theorem refRoom_any (f : Int) (m : Nat) (v : Value) (l : List Pl) (c : Int) (w : World) (h : PlsAt w v l) (hL : LightL l) (hS : Shares l) (hm : m < 4294967296) (hf : 0 ≤ f) (hf2 : f ≤ 64) :
    Calls Tryz.prog 24 #[planA f m v, .int .i64 c] w (RetB (.int .i64 (roomN f m l c)) w) := by
  have HH := Lib.hid h
  have HC := Lib.hid (fun W => refHasC_any f m v c W hm)
  have HLO := Lib.hid (fun hc w h => refLoad_any f m v l c w h hL hS hc)
  have hlb := load_bound hL hS c
  unfold planA at HC HLO
  unfold roomN
  obtain ⟨w1, P, hw1, hP, hPl, hb1, hbox⟩ := box_any w #[.int .i64 f, .int .u32 m, v] 25
  have HB1 := Lib.hid hb1
  have HBOX := Lib.hid hbox
  obtain ⟨r0, r1, r2⟩ := three_heads hbox
  clear h hL hS hb1 hbox
  unfold planA
  cases hh : hasC m c with
  | false =>
    rw [hh] at HC
    rw [if_neg (by simp)]
    clear hh
    go_enter Tryz.func24, Tryz.ntmps24
    go_wp2_with fail
    refine (HC.out _).mono ?_
    rintro e w2 ⟨rfl, hb2⟩
    have HB2 := Lib.hid (HB1.out.trans (hb2.mono HB1.out.size))
    clear hb2
    go_wp2_with fail
    go_ret
    exact ⟨rfl, HB2.out⟩
  | true =>
    have hc := hasC_range hh
    rw [hh] at HC
    rw [if_pos rfl]
    obtain ⟨lb1, lb2⟩ := hlb
    have HLC := Lib.hid (HLO.out hc.1)
    generalize loadN l c = ld at *
    have hw64 : IntKind.i64.wrap (f - ld) = f - ld := IntWalk.i64_in _ (by omega)
    clear hh hc HLO
    go_enter Tryz.func24, Tryz.ntmps24
    go_wp2_with fail
    refine (HC.out _).mono ?_
    rintro e w2 ⟨rfl, hb2⟩
    have HB2 := Lib.hid (HB1.out.trans (hb2.mono HB1.out.size))
    have HBX2 := Lib.hid (keep_block HBOX.out hb2)
    obtain ⟨q0, q1, q2⟩ := three_heads HBX2.out
    clear hb2 r0 r1 r2 hw1
    go_wp2_with fail
    have hPl2 : P < w2.heap.size := heap_lt HBX2.out
    go_region_held3 (fun w' => w'.cell? ⟨P, 0, none⟩ = some (.int .i64 f) ∧ w'.cell? ⟨P, 1, none⟩ = some (.int .u32 m) ∧ w'.cell? ⟨P, 2, none⟩ = some v)
      (first | go_keep | exact ⟨(hb.cell (p := ⟨P, 0, none⟩) hPl2).trans q0, (hb.cell (p := ⟨P, 1, none⟩) hPl2).trans q1, (hb.cell (p := ⟨P, 2, none⟩) hPl2).trans q2⟩)
      (first | (go_at_call 22; refine (HLC.out _ (HH.out.keep HB2.out.drew)).mono ?_; rintro e w' ⟨rfl, hb⟩))
    all_goals
      have HB5 := Lib.hid (HB2.out.drew.trans (hb.mono HB2.out.size))
      clear hb
      go_wp2
      go_ret
      exact ⟨rfl, HB5.out⟩

end Go.Proofs.YtiadnpipbocecaaGreat

/-
  The first core that has room, of program and document.
  Conditions: the plan is right; the share is 1 at least.
-/
set_option linter.unusedVariables false
set_option linter.unusedSimpArgs false
namespace Go.Proofs.YtiadnpipbocecaaGreat
open Go.RowKit

theorem cntT_inj (m : Nat) {a b : Nat} (ha : m.testBit a = true) (hb : m.testBit b = true) (h : cntT m a = cntT m b) : a = b := by
  rcases Nat.lt_trichotomy a b with h1 | h1 | h1
  · have := cntT_lt m h1 ha; omega
  · exact h1
  · have := cntT_lt m h1 hb; omega
/-- The core that first names. -/
def coreV (o : Option Nat) : Int := ((o.getD 0 : Nat) : Int)
/-- The core that the document's First names, or -1. -/
def coreR (o : Option Nat) : Int := match o with | some c => (c : Int) | none => -1

set_option maxRecDepth 100000 in
set_option maxHeartbeats 4000000 in
theorem first_any (f : Int) (m : Nat) (v : Value) (l : List Pl) (s : Int) (w : World) (h : PlsAt w v l) (hL : LightL l) (hr : Right f m l) (hs : 1 ≤ s) :
    Calls Tryz.prog 17 #[planA f m v, .int .i64 s] w (RetB (.tuple #[.int .i64 (coreV (firstR f m l s)), .bool (firstR f m l s).isSome]) w) := by
  have hm := hr.m16
  have hf := hr.f2
  have hf2 := hr.f64
  have hSh := shares_of hr.place hf2
  have HCO := Lib.hid (fun w => cores_any f m v w (by omega))
  rw [ticks_top hm] at HCO
  have HRM := Lib.hid (fun c w h => room_any f m v l c w h hL hSh (by omega) (by omega) hf2)
  have HRB := Lib.hid (fun c => room_bound f m l hL hSh (by omega) hf2 c)
  have HF := Lib.hid (fun c => @firstR_some f m l s c)
  have HF0 := Lib.hid (@firstR_none f m l s)
  have HIF := Lib.hid (fun c => @roomB_iff f m l s c)
  have HNO := Lib.hid (fun c => @roomB_no f m l s c)
  have HH := Lib.hid h
  unfold planA at HCO HRM
  obtain ⟨w1, P, hw1, hP, hPl, hb1, hbox⟩ := box_any w #[.int .i64 f, .int .u32 m, v] 25
  have HB1 := Lib.hid hb1
  have HBOX := Lib.hid hbox
  obtain ⟨r0, r1, r2⟩ := three_heads hbox
  obtain ⟨n, hn⟩ : ∃ n, (ticksI m 16).length = n := ⟨_, rfl⟩
  have HN := Lib.hid hn
  generalize firstR f m l s = o at *
  clear h hL hr hm hf hf2 hSh hb1 hbox hn
  unfold planA
  go_enter Tryz.func17, Tryz.ntmps17
  go_wp2_with fail
  refine (HCO.out _).mono ?_
  rintro e w2 ⟨v2, rfl, hi2, hb2⟩
  have HB2 := Lib.hid (HB1.out.trans (hb2.mono HB1.out.size))
  have HB12 := Lib.hid hb2
  obtain ⟨A2, c2, rfl, hl2, hat2⟩ := hi2
  rw [HN.out] at hat2 hl2 ⊢
  have HAT := Lib.hid hat2
  clear hb2 hat2 r0 r1 r2 hw1 hP
  go_wp2_with fail
  go_loopg [7, 11] n (fun gg _ s11 wr => ∃ k : Nat, k ≤ n ∧ gg = n - k ∧ s11 = .int .i64 k ∧ Hid (∀ j, j < 16 → m.testBit j = true → cntT m j < k → roomN f m l (j : Int) < s) ∧ Below w2.heap.size w2 wr)
  case atStart => exact ⟨0, Nat.zero_le _, by omega, rfl, fun j _ _ h => absurd h (Nat.not_lt_zero _), Below.refl _ _⟩
  case round =>
    obtain ⟨k, hk, hg, rfl, HLO, hbw⟩ := hrel
    have HG := Lib.hid hg
    have HBW := Lib.hid hbw
    have HB := Lib.hid (HB2.out.trans (hbw.mono HB2.out.size))
    obtain ⟨r0, r1, r2⟩ := three_heads (keep_block (keep_block HBOX.out HB12.out) hbw)
    by_cases hlt : k < n
    · have hltz : (k : Int) < (n : Int) := by omega
      have hk0 : (0 : Int) ≤ (k : Int) := by omega
      obtain ⟨q, hq⟩ := exP_at (xs := ticksI m 16) (k := k) (by rw [HN.out]; exact hlt)
      obtain ⟨C, rfl, hC, hCb, hcnt⟩ := ticks16 hq
      obtain ⟨bc, oc, hAd, hbcl, hcc⟩ := HAT.out (by omega)
      subst hAd
      have cc0 : wr.cell? ⟨bc, oc + k, none⟩ = some (.int .i64 (C : Int)) := (hbw.cell (p := ⟨bc, oc + k, none⟩) hbcl).trans (hcc k _ hq)
      have HRC := Lib.hid (fun w h => HRM.out (C : Int) w h)
      have HC16 := Lib.hid hC
      have HCB := Lib.hid hCb
      have HCNT := Lib.hid hcnt
      have HRE : Hid (∃ r, roomN f m l (C : Int) = r) := Lib.hid ⟨_, rfl⟩
      obtain ⟨r, hre⟩ := HRE.out
      rw [hre] at HRC
      have HE := Lib.hid hre
      clear hbw hg hq hcc hre hC hCb hcnt HRE
      by_cases hge : s ≤ r
      · have hged : decide (s ≤ r) = true := decide_eq_true hge
        have HO : Hid (o = some C) := Lib.hid ((HF.out _).2 ⟨HC16.out, (HIF.out C).2 ⟨HCB.out, by rw [HE.out]; exact hge⟩, fun j hj => (HNO.out j).2 fun hb => HLO j (by have := HC16.out; omega) hb (by
          have h1 := cntT_lt m hj hb
          have h2 := HCNT.out
          omega)⟩)
        have ho := HO.out
        subst ho
        go_wp2_with fail
        refine (HRC.out _ (HH.out.keep HB.out)).mono ?_
        rintro e w3 ⟨rfl, hb3⟩
        have HB3 := Lib.hid (HB.out.trans (hb3.mono HB.out.size))
        clear hb3
        go_wp2_with fail
        go_ret2
        exact ⟨rfl, HB3.out⟩
      · have hged : decide (s ≤ r) = false := decide_eq_false hge
        go_wp2_with fail
        refine (HRC.out _ (HH.out.keep HB.out)).mono ?_
        rintro e w3 ⟨rfl, hb3⟩
        have HB3 := Lib.hid (HBW.out.trans (hb3.mono HBW.out.size))
        have HLON : Hid (∀ j, j < 16 → m.testBit j = true → cntT m j < k + 1 → roomN f m l (j : Int) < s) := fun j hj hb hc => by
          by_cases e : cntT m j < k
          · exact HLO j hj hb e
          · have : j = C := cntT_inj m hb HCB.out (by have := HCNT.out; omega)
            subst this
            rw [HE.out]
            omega
        clear hb3
        go_wp2_with fail
        go_roundg (n - (k + 1))
        case measure => have := HG.out; omega
        case rel => exact ⟨k + 1, by omega, rfl, by go_num, HLON, HB3.out⟩
    · have hltz : ¬ (k : Int) < (n : Int) := by omega
      have HO : Hid (o = none) := Lib.hid (HF0.out.2 fun j hj => (HNO.out j).2 fun hb => HLO j hj hb (by
        have h1 := cntT_lt m hj hb
        have h2 := HN.out
        rw [ticksI_length] at h2
        omega))
      clear hbw hg
      have ho := HO.out
      subst ho
      go_wp2_with fail
      go_ret2
      exact ⟨rfl, HB.out⟩

set_option maxRecDepth 100000 in
set_option maxHeartbeats 4000000 in
theorem refFirst_any (f : Int) (m : Nat) (v : Value) (l : List Pl) (s : Int) (w : World) (h : PlsAt w v l) (hL : LightL l) (hr : Right f m l) (hs : 1 ≤ s) :
    Calls Tryz.prog 8 #[planA f m v, .int .i64 s] w (RetB (.int .i64 (coreR (firstR f m l s))) w) := by
  have hm := hr.m16
  have hf := hr.f2
  have hf2 := hr.f64
  have hSh := shares_of hr.place hf2
  have HHC := Lib.hid (fun c W => refHasC_any f m v c W (by omega))
  have HRM := Lib.hid (fun c w h => refRoom_any f m v l c w h hL hSh (by omega) (by omega) hf2)
  have HF := Lib.hid (fun c => @firstR_some f m l s c)
  have HF0 := Lib.hid (@firstR_none f m l s)
  have HIF := Lib.hid (fun c => @roomB_iff f m l s c)
  have HNO := Lib.hid (fun c => @roomB_no f m l s c)
  have HH := Lib.hid h
  unfold planA at HHC HRM
  obtain ⟨w1, P, hw1, hP, hPl, hb1, hbox⟩ := box_any w #[.int .i64 f, .int .u32 m, v] 25
  have HB1 := Lib.hid hb1
  have HBOX := Lib.hid hbox
  obtain ⟨r0, r1, r2⟩ := three_heads hbox
  generalize firstR f m l s = o at *
  clear h hL hr hm hf hf2 hSh hb1 hbox
  unfold planA
  go_enter Tryz.func8, Tryz.ntmps8
  go_wp2_with fail
  clear r0 r1 r2 hw1 hP
  go_loopg [5] 16 (fun gg s5 wr => ∃ k : Nat, k ≤ 16 ∧ gg = 16 - k ∧ s5 = .int .i64 k ∧ Hid (∀ j, j < k → roomB f m l s j = false) ∧ Below w1.heap.size w1 wr)
  case atStart => exact ⟨0, Nat.zero_le _, by omega, rfl, fun j h => absurd h (Nat.not_lt_zero _), Below.refl _ _⟩
  case round =>
    obtain ⟨k, hk, hg, rfl, HLO, hbw⟩ := hrel
    have HG := Lib.hid hg
    have HBW := Lib.hid hbw
    have HB := Lib.hid (HB1.out.trans (hbw.mono HB1.out.size))
    have HBX := Lib.hid (keep_block HBOX.out hbw)
    obtain ⟨r0, r1, r2⟩ := three_heads HBX.out
    by_cases hlt : k < 16
    · have hltz : (k : Int) < 16 := by omega
      have hk0 : (0 : Int) ≤ (k : Int) := by omega
      have HHK := Lib.hid (fun W => HHC.out (k : Int) W)
      rw [hasC_nat hlt] at HHK
      have HRC := Lib.hid (fun w h => HRM.out (k : Int) w h)
      have HRE : Hid (∃ r, roomN f m l (k : Int) = r) := Lib.hid ⟨_, rfl⟩
      obtain ⟨r, hre⟩ := HRE.out
      rw [hre] at HRC
      have HE := Lib.hid hre
      clear hbw hg hre HRE
      cases hb : m.testBit k with
      | false =>
        have HLON : Hid (∀ j, j < k + 1 → roomB f m l s j = false) := fun j hj => by
          by_cases e : j = k
          · subst e
            exact (HNO.out j).2 fun h => by rw [hb] at h; cases h
          · exact HLO j (by omega)
        rw [hb] at HHK
        clear hb
        go_wp2_with fail
        refine (HHK.out _).mono ?_
        rintro e w3 ⟨rfl, hb3⟩
        have HB3 := Lib.hid (HBW.out.trans (hb3.mono HBW.out.size))
        clear hb3
        go_wp2_with fail
        go_roundg (16 - (k + 1))
        case measure => have := HG.out; omega
        case rel => exact ⟨k + 1, by omega, rfl, by go_num, HLON, HB3.out⟩
      | true =>
        have HCB := Lib.hid hb
        rw [hb] at HHK
        clear hb
        by_cases hge : s ≤ r
        · have hged : decide (s ≤ r) = true := decide_eq_true hge
          have HO : Hid (o = some k) := Lib.hid ((HF.out _).2 ⟨hlt, (HIF.out k).2 ⟨HCB.out, by rw [HE.out]; exact hge⟩, HLO⟩)
          have ho := HO.out
          subst ho
          go_wp2_with fail
          refine (HHK.out _).mono ?_
          rintro e w3 ⟨rfl, hb3⟩
          have HB3 := Lib.hid (HB.out.trans (hb3.mono HB.out.size))
          have HBX3 := Lib.hid (keep_block HBX.out hb3)
          clear hb3 r0 r1 r2
          obtain ⟨r0, r1, r2⟩ := three_heads HBX3.out
          go_wp2_with fail
          refine (HRC.out _ (HH.out.keep HB3.out)).mono ?_
          rintro e w4 ⟨rfl, hb4⟩
          have HB4 := Lib.hid (HB3.out.trans (hb4.mono HB3.out.size))
          clear hb4
          go_wp2_with fail
          go_ret
          exact ⟨rfl, HB4.out⟩
        · have hged : decide (s ≤ r) = false := decide_eq_false hge
          have HLON : Hid (∀ j, j < k + 1 → roomB f m l s j = false) := fun j hj => by
            by_cases e : j = k
            · subst e
              exact (HNO.out j).2 fun h => by rw [HE.out]; omega
            · exact HLO j (by omega)
          go_wp2_with fail
          refine (HHK.out _).mono ?_
          rintro e w3 ⟨rfl, hb3⟩
          have HB3 := Lib.hid (HB.out.trans (hb3.mono HB.out.size))
          have HB3' := Lib.hid (HBW.out.trans (hb3.mono HBW.out.size))
          have HBX3 := Lib.hid (keep_block HBX.out hb3)
          clear hb3 r0 r1 r2
          obtain ⟨r0, r1, r2⟩ := three_heads HBX3.out
          go_wp2_with fail
          refine (HRC.out _ (HH.out.keep HB3.out)).mono ?_
          rintro e w4 ⟨rfl, hb4⟩
          have HB4 := Lib.hid (HB3'.out.trans (hb4.mono HB3'.out.size))
          clear hb4
          go_wp2_with fail
          go_roundg (16 - (k + 1))
          case measure => have := HG.out; omega
          case rel => exact ⟨k + 1, by omega, rfl, by go_num, HLON, HB4.out⟩
    · have hltz : ¬ (k : Int) < 16 := by omega
      have HO : Hid (o = none) := Lib.hid (HF0.out.2 fun j hj => HLO j (by omega))
      clear hbw hg
      have ho := HO.out
      subst ho
      go_wp2_with fail
      go_ret
      exact ⟨rfl, HB.out⟩
end Go.Proofs.YtiadnpipbocecaaGreat

/-
  rightCores, rightSplit and rightPlaces of the program.
  Conditions: the slices read as pieces, as places; the numbers are of their kinds.
-/
set_option linter.unusedVariables false
set_option linter.unusedSimpArgs false
namespace Go.Proofs.YtiadnpipbocecaaGreat
open Go.RowKit Go.Sort

theorem rightCores_any (m : Nat) (w : World) : Calls Tryz.prog 34 #[.int .u32 m] w (Ret (.bool (decide (m ≠ 0 ∧ m < 65536))) w) := by
  by_cases h0 : m = 0
  · have e : decide (m ≠ 0 ∧ m < 65536) = false := decide_eq_false fun h => h.1 h0
    have h1 : ((m : Int) != 0) = false := by subst h0; rfl
    rw [e]
    clear e h0
    go_enter Tryz.func34, Tryz.ntmps34
    go_wp2
    go_ret
    exact ⟨rfl, rfl⟩
  · have h1 : ((m : Int) != 0) = true := by simpa using h0
    by_cases h2 : m < 65536
    · have e : decide (m ≠ 0 ∧ m < 65536) = true := decide_eq_true ⟨h0, h2⟩
      have h3 : (m : Int) < 65536 := by omega
      rw [e]
      clear e h0
      go_enter Tryz.func34, Tryz.ntmps34
      go_wp2
      go_ret
      exact ⟨rfl, rfl⟩
    · have e : decide (m ≠ 0 ∧ m < 65536) = false := decide_eq_false fun h => h2 h.2
      have h3 : decide ((m : Int) < 65536) = false := decide_eq_false (by omega)
      rw [e]
      clear e h0
      go_enter Tryz.func34, Tryz.ntmps34
      go_wp2
      go_ret
      exact ⟨rfl, rfl⟩

theorem free_nil (f : Int) (h : 0 ≤ f) (h2 : f ≤ 64) : allN (frN f) = freeN f [] := by
  refine eq_setP (allN_lt (frN_le f)) fun t ht => ?_
  rw [allN_bit]
  have e : decide (nAny [] t = 0) = true := decide_eq_true rfl
  rw [e, Bool.and_true]
  unfold frN
  by_cases h1 : (t : Int) < f
  · rw [decide_eq_true h1, decide_eq_true (by omega)]
  · rw [decide_eq_false h1, decide_eq_false (by omega)]
def lastC (q : List Pc) : Int := (q.getLast?.map Pc.c).getD (-1)
theorem lastC_next {q : List Pc} {k : Nat} {y : Pc} (hy : q[k]? = some y) : lastC (q.take (k + 1)) = y.c := last_at hy
theorem kept_next {f : Int} {q : List Pc} {k : Nat} {y : Pc} (hy : q[k]? = some y) (hyt : y.t < 18446744073709551616) (hk : Kept f (q.take k)) : lessN y.t (freeN f (q.take k)) = 0 ↔ Kept f (q.take (k + 1)) := by
  rw [fits_iff hyt hk, List.take_add_one, hy]
  rfl
theorem free_step {f : Int} {q : List Pc} {k : Nat} {y : Pc} (hy : q[k]? = some y) : lessN (freeN f (q.take k)) y.t = freeN f (q.take (k + 1)) := by
  rw [free_next, List.take_add_one, hy]
  rfl
theorem kept_take {f : Int} {q : List Pc} (h : Kept f q) (k : Nat) : Kept f (q.take k) := by
  rw [← List.take_append_drop k q] at h
  exact kept_prefix h

set_option maxRecDepth 100000 in
set_option maxHeartbeats 8000000 in
theorem rightSplit_any (f : Int) (m : Nat) (pv v : Value) (x : Pl) (w : World) (h : PcsAt w v x.ps) (hxo : PlOk x) (hl : x.ps.length ≤ 1000) (hm : m < 4294967296) (hf : 2 ≤ f) (hf2 : f ≤ 64) :
    Calls Tryz.prog 62 #[planA f m pv, plA v x] w (RetIff (SplitOk f m x) w) := by
  have HHC := Lib.hid (fun c W => hasCore_any f m pv c W hm)
  have HAL := Lib.hid (fun W => all_any f W)
  rw [free_nil f (by omega) hf2] at HAL
  have HYO := Lib.hid hxo.2.2.2
  have HH := Lib.hid h
  obtain ⟨A, d, rfl⟩ := h.form
  obtain ⟨xu, xs, xc, ps⟩ := x
  simp only at *
  obtain ⟨w1, P, hw1, hP, hPl, hb1, hbox⟩ := box_any w #[.int .i64 f, .int .u32 m, pv] 25
  obtain ⟨w2, X, hw2, hX, hXl, hb2, hxbox⟩ := box_any w1 #[.int .i64 xu, .int .i64 xs, .int .i64 xc, .slice A ps.length d] 43
  obtain ⟨n, hn⟩ : ∃ n, ps.length = n := ⟨_, rfl⟩
  rw [hn] at HH hl hw2 hxbox ⊢
  have HN := Lib.hid hn
  have HB2 := Lib.hid (hb1.trans (hb2.mono hb1.size))
  have HPB := Lib.hid (keep_block hbox hb2)
  have HXB := Lib.hid hxbox
  obtain ⟨p0, p1, p2⟩ := three_heads HPB.out
  obtain ⟨q0, q1, q2, q3⟩ := four_heads hxbox
  have mixed : Tryz.prog.follows .mixedOrders = true := by kernel_rfl
  unfold planA at HHC ⊢
  unfold plA
  clear h hxo hb1 hb2 hbox hxbox hn
  by_cases hxc : xc = 0
  · have hc0 : (xc != 0) = false := by simpa using hxc
    by_cases hn2 : n < 2
    · have hn3 : (n : Int) < 2 := by omega
      have HNO := Lib.hid (show ¬ SplitOk f m ⟨xu, xs, xc, ps⟩ from fun h => by have h2 : 2 ≤ ps.length := h.two; rw [HN.out] at h2; omega)
      clear hxc
      go_enter Tryz.func62, Tryz.ntmps62
      go_wp2_with fail
      go_ret
      exact RetIff.no HNO.out HB2.out
    · have hn3 : decide ((n : Int) < 2) = false := decide_eq_false (by omega)
      have hn4 : decide (n < 2) = false := decide_eq_false hn2
      have HXC := Lib.hid hxc
      have HN2 := Lib.hid (show 2 ≤ n by omega)
      clear hxc
      go_enter Tryz.func62, Tryz.ntmps62
      go_wp2_with (go_at_call 87; refine (HAL.out _).mono ?_; rintro e w' ⟨rfl, rfl⟩)
      clear hw1 hP hw2 hX p0 p1 p2 q0 q1 q2 q3
      go_loopg [5, 6, 8, 24] n (fun gg s5 s6 _ s24 wr => ∃ (k fr : Nat) (la : Int), k ≤ n ∧ gg = n - k ∧ s24 = .int .i64 k ∧ s5 = .int .i64 la ∧ s6 = .int .u64 fr ∧ Hid (la = lastC (ps.take k) ∧ fr = freeN f (ps.take k) ∧ Rise m (-1) (ps.take k) ∧ Kept f (ps.take k)) ∧ Below w2.heap.size w2 wr)
      case atStart => exact ⟨0, _, _, Nat.zero_le _, by omega, rfl, rfl, rfl, ⟨rfl, rfl, trivial, kept_nil f⟩, Below.refl _ _⟩
      case round =>
        obtain ⟨k, fr, la, hk, hg, rfl, rfl, rfl, HI, hbw⟩ := hrel
        have HG := Lib.hid hg
        have HBW := Lib.hid hbw
        have HPR := Lib.hid (keep_block HPB.out hbw)
        have HXR := Lib.hid (keep_block HXB.out hbw)
        have HB := Lib.hid (HB2.out.trans (hbw.mono HB2.out.size))
        have HPS := Lib.hid (HH.out.keep HB.out)
        have hfrl : fr < 18446744073709551616 := by rw [HI.2.1]; exact freeN_lt _ _
        obtain ⟨p0, p1, p2⟩ := three_heads HPR.out
        obtain ⟨q0, q1, q2, q3⟩ := four_heads HXR.out
        clear hg hbw
        by_cases hlt : k < n
        · have hltz : (k : Int) < (n : Int) := by omega
          have hk0 : (0 : Int) ≤ (k : Int) := by omega
          obtain ⟨y, hy⟩ := exP_at (xs := ps) (k := k) (by rw [HN.out]; exact hlt)
          obtain ⟨b, off, hA, hbl, _, c0, c1⟩ := HPS.out.at_ hy
          subst hA
          have HRN := Lib.hid (rise_next (m := m) hy)
          have hyt := (HYO.out y (List.mem_of_getElem? hy)).2
          have HKN := Lib.hid (kept_next (f := f) hy hyt HI.2.2.2)
          have HFN := Lib.hid (free_step (f := f) hy)
          have HLN := Lib.hid (lastC_next hy)
          obtain ⟨yc, yt⟩ := y
          simp only at c0 c1 HRN HKN HFN HLN hyt
          obtain ⟨w3, Y, hw3, hY, hYl, hb3, hyb⟩ := box_any wr #[.int .i64 yc, .int .u64 yt] 66
          have HB31 := Lib.hid (HBW.out.trans (hb3.mono HBW.out.size))
          have HB3 := Lib.hid (HB2.out.trans (HB31.out.mono HB2.out.size))
          have HP3 := Lib.hid (keep_block HPR.out hb3)
          have HX3 := Lib.hid (keep_block HXR.out hb3)
          have HYB := Lib.hid hyb
          have HCC := Lib.hid (fun W => HHC.out yc W)
          have HNK := Lib.hid (show SplitOk f m ⟨xu, xs, xc, ps⟩ → (hasC m yc = true ∧ lastC (ps.take k) < yc ∧ yt ≠ 0) ∧ Kept f (ps.take (k + 1)) from fun h => ⟨(HRN.out.1 (rise_take h.rise _)).2, kept_take h.kept _⟩)
          obtain ⟨y0, y1⟩ := two_heads hyb
          obtain ⟨v0, v1, v2⟩ := three_heads HP3.out
          clear hb3 hyb hy
          by_cases hle : yc ≤ la
          · have HNO := Lib.hid (show ¬ SplitOk f m ⟨xu, xs, xc, ps⟩ from fun h => by have := (HNK.out h).1.2.1; rw [← HI.1] at this; omega)
            go_wp2_with fail
            go_ret
            exact RetIff.no HNO.out HB3.out
          · have hle' : decide (yc ≤ la) = false := decide_eq_false hle
            cases hh : hasC m yc with
            | false =>
              rw [hh] at HCC
              have HNO := Lib.hid (show ¬ SplitOk f m ⟨xu, xs, xc, ps⟩ from fun h => by have := (HNK.out h).1.1; rw [hh] at this; cases this)
              clear hh
              go_wp2_with fail
              refine (HCC.out _).mono ?_
              rintro e w4 ⟨rfl, hb4⟩
              have HB4 := Lib.hid (HB3.out.trans (hb4.mono HB3.out.size))
              clear hb4
              go_wp2_with fail
              go_ret
              exact RetIff.no HNO.out HB4.out
            | true =>
              rw [hh] at HCC
              have HHH := Lib.hid hh
              clear hh
              by_cases hyz : yt = 0
              · have HNO := Lib.hid (show ¬ SplitOk f m ⟨xu, xs, xc, ps⟩ from fun h => (HNK.out h).1.2.2 hyz)
                have hy1 : ((yt : Int) == 0) = true := by subst hyz; rfl
                clear hyz
                go_wp2_with fail
                refine (HCC.out _).mono ?_
                rintro e w4 ⟨rfl, hb4⟩
                have HB4 := Lib.hid (HB3.out.trans (hb4.mono HB3.out.size))
                obtain ⟨u0, u1⟩ := two_heads (keep_block HYB.out hb4)
                clear hb4
                go_wp2_with fail
                go_ret
                exact RetIff.no HNO.out HB4.out
              · have hy1 : ((yt : Int) == 0) = false := by simpa using hyz
                have HYZ := Lib.hid hyz
                have ea := andNot_word yt fr hyt hfrl
                have eb := andNot_word fr yt hfrl hyt
                obtain ⟨Z, hZ⟩ : ∃ Z, lessN yt fr = Z := ⟨_, rfl⟩
                obtain ⟨F2, hF2⟩ : ∃ F2, lessN fr yt = F2 := ⟨_, rfl⟩
                rw [hZ] at ea
                rw [hF2] at eb
                have HZ := Lib.hid (show Z = 0 ↔ Kept f (ps.take (k + 1)) by rw [← hZ, HI.2.1]; exact HKN.out)
                have HF2 := Lib.hid (show F2 = freeN f (ps.take (k + 1)) by rw [← hF2, HI.2.1]; exact HFN.out)
                clear hyz hZ hF2
                by_cases hz : Z = 0
                · have hz1 : ((Z : Int) != 0) = false := by subst hz; rfl
                  have HIN : Hid (yc = lastC (ps.take (k + 1)) ∧ F2 = freeN f (ps.take (k + 1)) ∧ Rise m (-1) (ps.take (k + 1)) ∧ Kept f (ps.take (k + 1))) :=
                    ⟨HLN.out.symm, HF2.out, HRN.out.2 ⟨HI.2.2.1, HHH.out, by show lastC (ps.take k) < yc; rw [← HI.1]; omega, HYZ.out⟩, HZ.out.1 hz⟩
                  clear hz
                  go_wp2_with fail
                  refine (HCC.out _).mono ?_
                  rintro e w4 ⟨rfl, hb4⟩
                  have HB4 := Lib.hid (HB31.out.trans (hb4.mono HB31.out.size))
                  obtain ⟨u0, u1⟩ := two_heads (keep_block HYB.out hb4)
                  clear hb4 y0 y1 v0 v1 v2 p0 p1 p2 q0 q1 q2 q3 c0 c1 hw3
                  go_wp2_with fail
                  go_quiet (fail)
                  go_wp2_with fail
                  go_roundg (n - (k + 1))
                  case measure => have := HG.out; omega
                  case rel => exact ⟨k + 1, F2, yc, by omega, rfl, by go_num, rfl, rfl, HIN, below_drewN HB4.out _⟩
                · have hz1 : ((Z : Int) != 0) = true := by simpa using hz
                  have HNO := Lib.hid (show ¬ SplitOk f m ⟨xu, xs, xc, ps⟩ from fun h => hz (HZ.out.2 (HNK.out h).2))
                  clear hz
                  go_wp2_with fail
                  refine (HCC.out _).mono ?_
                  rintro e w4 ⟨rfl, hb4⟩
                  have HB4 := Lib.hid (HB3.out.trans (hb4.mono HB3.out.size))
                  obtain ⟨u0, u1⟩ := two_heads (keep_block HYB.out hb4)
                  clear hb4
                  go_wp2_with fail
                  go_ret
                  exact RetIff.no HNO.out HB4.out
        · have hltz : ¬ (k : Int) < (n : Int) := by omega
          have HE : Hid (fr = freeN f ps ∧ Rise m (-1) ps ∧ Kept f ps) := by
            have h := HI.2
            rw [List.take_of_length_le (by rw [HN.out]; omega)] at h
            exact h
          have HCN := Lib.hid (fun W => count_any fr W hfrl)
          have hc64 := cnt_le fr
          have HCE := Lib.hid (show (cnt fr : Int) + (sumTo (nAny ps) 64 : Int) = f by rw [HE.1]; exact free_cnt HE.2.2 (by omega) hf2)
          obtain ⟨c, hc⟩ : ∃ c, cnt fr = c := ⟨_, rfl⟩
          rw [hc] at HCN hc64 HCE
          have hw64 : IntKind.i64.wrap (f - (c : Int)) = f - (c : Int) := IntWalk.i64_in _ (by omega)
          have lP := heap_lt HPR.out
          clear hc
          obtain ⟨D, hD⟩ : ∃ D, f - (c : Int) = D := ⟨_, rfl⟩
          have HD := Lib.hid hD
          cases hde : (D == xs) with
          | true =>
            have HYE := Lib.hid (show SplitOk f m ⟨xu, xs, xc, ps⟩ from ⟨HXC.out, by show 2 ≤ ps.length; rw [HN.out]; exact HN2.out, HE.2.1, HE.2.2, by
              have h1 : D = xs := by simpa using hde
              have h2 := HCE.out
              show (sumTo (nAny ps) 64 : Int) = xs
              omega⟩)
            rw [← hD] at hde
            clear hD
            go_wp2_with fail
            refine wp_region_held_drew (S := fun w' => w'.cell? ⟨P, 0, none⟩ = some (.int .i64 f) ∧ w'.cell? ⟨X, 1, none⟩ = some (.int .i64 xs)) (by kernel_rfl) ?_ (fun hHeld => ?_)
            · exact ⟨p0, q1⟩
            refine wpAnyH_take (i := 0) (oi := ⟨some 56, _, _, _, _, _⟩) (v := ?_) rfl (by kernel_rfl) (by kernel_rfl) (by kernel_rfl) (fun _ _ _ h => h) (Or.inl ⟨by kernel_rfl, ?_⟩) (by assumption) ?_
            rotate_left
            · (intro w hSw; (try dsimp only at hSw); go_simp; try with_reducible rfl)
            (try simp only [Act.put, List.setIfInBounds_toArray, List.set_cons_zero, List.set_cons_succ])
            refine wpAnyH_take (i := 1) (oi := ⟨some 57, _, _, _, _, _⟩) (v := ?_) rfl (by kernel_rfl) (by kernel_rfl) (by kernel_rfl) (fun _ _ _ h => h) (Or.inl ⟨by kernel_rfl, ?_⟩) (by assumption) ?_
            rotate_left
            · (intro w hSw; (try dsimp only at hSw); go_simp; try with_reducible rfl)
            (try simp only [Act.put, List.setIfInBounds_toArray, List.set_cons_zero, List.set_cons_succ])
            refine wpAnyH_take (i := 2) (oi := ⟨some 58, _, _, _, _, _⟩) (v := ?_) rfl (by kernel_rfl) (by kernel_rfl) (by kernel_rfl) (fun _ _ _ h => h) (Or.inl ⟨by kernel_rfl, ?_⟩) (by assumption) ?_
            rotate_left
            · (intro w hSw; (try dsimp only at hSw); go_simp; try with_reducible rfl)
            (try simp only [Act.put, List.setIfInBounds_toArray, List.set_cons_zero, List.set_cons_succ])
            refine wpAnyH_take (i := 5) (oi := ⟨some 61, _, _, _, _, _⟩) (v := ?_) rfl (by kernel_rfl) (by kernel_rfl) (by kernel_rfl) (fun _ _ _ h => h) (Or.inl ⟨by kernel_rfl, ?_⟩) (by assumption) ?_
            rotate_left
            · (intro w hSw; (try dsimp only at hSw); go_simp; try with_reducible rfl)
            (try simp only [Act.put, List.setIfInBounds_toArray, List.set_cons_zero, List.set_cons_succ])
            refine wpAnyH_take (i := 6) (oi := ⟨some 62, _, _, _, _, _⟩) (v := ?_) rfl (by kernel_rfl) (by kernel_rfl) (by kernel_rfl) (fun _ _ _ h => h) (Or.inl ⟨by kernel_rfl, ?_⟩) (by assumption) ?_
            rotate_left
            · (intro w hSw; (try dsimp only at hSw); go_simp; try with_reducible rfl)
            (try simp only [Act.put, List.setIfInBounds_toArray, List.set_cons_zero, List.set_cons_succ])
            refine wpAnyH_ready (rs := [3]) (by kernel_rfl) (by simp) ?_
            refine AllReadyH.cons (o := ⟨some 59, _, _, _, _, _⟩) rfl (fun K hK => ?_) AllReadyH.nil
            rw [if_pos (by kernel_rfl)]
            go_simp
            go_at_call 67; refine (HCN.out _).mono ?_; rintro e wq ⟨rfl, rfl⟩
            refine hK.out _ _ ?_ (fun hHeld => ?_)
            · exact hHeld
            clear hK K
            (try simp only [Act.put, List.setIfInBounds_toArray, List.set_cons_zero, List.set_cons_succ])
            refine wpAnyH_take (i := 4) (oi := ⟨some 60, _, _, _, _, _⟩) (v := ?_) rfl (by kernel_rfl) (by kernel_rfl) (by kernel_rfl) (fun _ _ _ h => h) (Or.inl ⟨by kernel_rfl, ?_⟩) (by assumption) ?_
            rotate_left
            · (intro w hSw; (try dsimp only at hSw); go_simp; try with_reducible rfl)
            (try simp only [Act.put, List.setIfInBounds_toArray, List.set_cons_zero, List.set_cons_succ])
            refine wpAnyH_take (i := 7) (oi := ⟨some 63, _, _, _, _, _⟩) (v := ?_) rfl (by kernel_rfl) (by kernel_rfl) (by kernel_rfl) (fun _ _ _ h => h) (Or.inl ⟨by kernel_rfl, ?_⟩) (by assumption) ?_
            rotate_left
            · (intro w hSw; (try dsimp only at hSw); go_simp; try with_reducible rfl)
            (try simp only [Act.put, List.setIfInBounds_toArray, List.set_cons_zero, List.set_cons_succ])
            refine wpAnyH_take (i := 8) (oi := ⟨some 4, _, _, _, _, _⟩) (v := ?_) rfl (by kernel_rfl) (by kernel_rfl) (by kernel_rfl) (fun _ _ _ h => h) (Or.inl ⟨by kernel_rfl, ?_⟩) (by assumption) ?_
            rotate_left
            · (intro w hSw; (try dsimp only at hSw); go_simp; try with_reducible rfl)
            (try simp only [Act.put, List.setIfInBounds_toArray, List.set_cons_zero, List.set_cons_succ])
            refine wpAnyH_done (by kernel_rfl) ?_ _
            go_wp2_with fail
            go_ret
            exact RetIff.yes HYE.out HB.out.drew
          | false =>
            have HNO := Lib.hid (show ¬ SplitOk f m ⟨xu, xs, xc, ps⟩ from fun h => by
              have h1 : (sumTo (nAny ps) 64 : Int) = xs := h.all
              have h2 := HCE.out
              have h3 : D ≠ xs := by simpa using hde
              omega)
            rw [← hD] at hde
            clear hD
            go_wp2_with fail
            refine wp_region_held_drew (S := fun w' => w'.cell? ⟨P, 0, none⟩ = some (.int .i64 f) ∧ w'.cell? ⟨X, 1, none⟩ = some (.int .i64 xs)) (by kernel_rfl) ?_ (fun hHeld => ?_)
            · exact ⟨p0, q1⟩
            refine wpAnyH_take (i := 0) (oi := ⟨some 56, _, _, _, _, _⟩) (v := ?_) rfl (by kernel_rfl) (by kernel_rfl) (by kernel_rfl) (fun _ _ _ h => h) (Or.inl ⟨by kernel_rfl, ?_⟩) (by assumption) ?_
            rotate_left
            · (intro w hSw; (try dsimp only at hSw); go_simp; try with_reducible rfl)
            (try simp only [Act.put, List.setIfInBounds_toArray, List.set_cons_zero, List.set_cons_succ])
            refine wpAnyH_take (i := 1) (oi := ⟨some 57, _, _, _, _, _⟩) (v := ?_) rfl (by kernel_rfl) (by kernel_rfl) (by kernel_rfl) (fun _ _ _ h => h) (Or.inl ⟨by kernel_rfl, ?_⟩) (by assumption) ?_
            rotate_left
            · (intro w hSw; (try dsimp only at hSw); go_simp; try with_reducible rfl)
            (try simp only [Act.put, List.setIfInBounds_toArray, List.set_cons_zero, List.set_cons_succ])
            refine wpAnyH_take (i := 2) (oi := ⟨some 58, _, _, _, _, _⟩) (v := ?_) rfl (by kernel_rfl) (by kernel_rfl) (by kernel_rfl) (fun _ _ _ h => h) (Or.inl ⟨by kernel_rfl, ?_⟩) (by assumption) ?_
            rotate_left
            · (intro w hSw; (try dsimp only at hSw); go_simp; try with_reducible rfl)
            (try simp only [Act.put, List.setIfInBounds_toArray, List.set_cons_zero, List.set_cons_succ])
            refine wpAnyH_take (i := 5) (oi := ⟨some 61, _, _, _, _, _⟩) (v := ?_) rfl (by kernel_rfl) (by kernel_rfl) (by kernel_rfl) (fun _ _ _ h => h) (Or.inl ⟨by kernel_rfl, ?_⟩) (by assumption) ?_
            rotate_left
            · (intro w hSw; (try dsimp only at hSw); go_simp; try with_reducible rfl)
            (try simp only [Act.put, List.setIfInBounds_toArray, List.set_cons_zero, List.set_cons_succ])
            refine wpAnyH_take (i := 6) (oi := ⟨some 62, _, _, _, _, _⟩) (v := ?_) rfl (by kernel_rfl) (by kernel_rfl) (by kernel_rfl) (fun _ _ _ h => h) (Or.inl ⟨by kernel_rfl, ?_⟩) (by assumption) ?_
            rotate_left
            · (intro w hSw; (try dsimp only at hSw); go_simp; try with_reducible rfl)
            (try simp only [Act.put, List.setIfInBounds_toArray, List.set_cons_zero, List.set_cons_succ])
            refine wpAnyH_ready (rs := [3]) (by kernel_rfl) (by simp) ?_
            refine AllReadyH.cons (o := ⟨some 59, _, _, _, _, _⟩) rfl (fun K hK => ?_) AllReadyH.nil
            rw [if_pos (by kernel_rfl)]
            go_simp
            go_at_call 67; refine (HCN.out _).mono ?_; rintro e wq ⟨rfl, rfl⟩
            refine hK.out _ _ ?_ (fun hHeld => ?_)
            · exact hHeld
            clear hK K
            (try simp only [Act.put, List.setIfInBounds_toArray, List.set_cons_zero, List.set_cons_succ])
            refine wpAnyH_take (i := 4) (oi := ⟨some 60, _, _, _, _, _⟩) (v := ?_) rfl (by kernel_rfl) (by kernel_rfl) (by kernel_rfl) (fun _ _ _ h => h) (Or.inl ⟨by kernel_rfl, ?_⟩) (by assumption) ?_
            rotate_left
            · (intro w hSw; (try dsimp only at hSw); go_simp; try with_reducible rfl)
            (try simp only [Act.put, List.setIfInBounds_toArray, List.set_cons_zero, List.set_cons_succ])
            refine wpAnyH_take (i := 7) (oi := ⟨some 63, _, _, _, _, _⟩) (v := ?_) rfl (by kernel_rfl) (by kernel_rfl) (by kernel_rfl) (fun _ _ _ h => h) (Or.inl ⟨by kernel_rfl, ?_⟩) (by assumption) ?_
            rotate_left
            · (intro w hSw; (try dsimp only at hSw); go_simp; try with_reducible rfl)
            (try simp only [Act.put, List.setIfInBounds_toArray, List.set_cons_zero, List.set_cons_succ])
            refine wpAnyH_take (i := 8) (oi := ⟨some 4, _, _, _, _, _⟩) (v := ?_) rfl (by kernel_rfl) (by kernel_rfl) (by kernel_rfl) (fun _ _ _ h => h) (Or.inl ⟨by kernel_rfl, ?_⟩) (by assumption) ?_
            rotate_left
            · (intro w hSw; (try dsimp only at hSw); go_simp; try with_reducible rfl)
            (try simp only [Act.put, List.setIfInBounds_toArray, List.set_cons_zero, List.set_cons_succ])
            refine wpAnyH_done (by kernel_rfl) ?_ _
            go_wp2_with fail
            go_ret
            exact RetIff.no HNO.out HB.out.drew
  · have hc0 : (xc != 0) = true := by simpa using hxc
    have HNO := Lib.hid (show ¬ SplitOk f m ⟨xu, xs, xc, ps⟩ from fun h => hxc h.core)
    clear hxc
    go_enter Tryz.func62, Tryz.ntmps62
    go_wp2_with fail
    go_ret
    exact RetIff.no HNO.out HB2.out
end Go.Proofs.YtiadnpipbocecaaGreat

/-
  rightPlaces of the program.
  Conditions: the slice reads as places; the numbers are of their kinds.
-/
set_option linter.unusedVariables false
namespace Go.Proofs.YtiadnpipbocecaaGreat
open Go.RowKit Go.Sort

theorem ws_whole {f : Int} {m : Nat} {x : Pl} (h : x.ps.length = 0) : WS f m x ↔ hasC m x.c = true :=
  have e : x.ps = [] := List.eq_nil_of_length_eq_zero h
  ⟨fun hw => hw.whole e, fun hh => ⟨fun _ => hh, fun hne => absurd e hne⟩⟩
theorem ws_split {f : Int} {m : Nat} {x : Pl} (h : x.ps.length ≠ 0) : WS f m x ↔ SplitOk f m x :=
  have e : x.ps ≠ [] := fun e => h (by rw [e]; rfl)
  ⟨fun hw => hw.split e, fun hh => ⟨fun e' => absurd e' e, fun _ => hh⟩⟩

set_option maxRecDepth 100000 in
set_option maxHeartbeats 4000000 in
theorem rightPlaces_any (f : Int) (m : Nat) (v : Value) (l : List Pl) (w : World) (h : PlsAt w v l) (hL : LightL l) (hm : m < 4294967296) (hf : 2 ≤ f) (hf2 : f ≤ 64) :
    Calls Tryz.prog 36 #[planA f m v] w (RetIff (∀ x ∈ l, WS f m x) w) := by
  have HLL := Lib.hid hL
  have HM := Lib.hid hm
  have HF := Lib.hid (And.intro hf hf2)
  have hl : l.length ≤ 1000 := by have := hL.len; omega
  have HHC := Lib.hid (fun v c W => hasCore_any f m v c W hm)
  have HIW := Lib.hid (fun A n d x w => isWhole_any Any A n d x w)
  unfold planA at HHC
  unfold plA at HIW
  clear hL hm hf hf2
  obtain ⟨A, cA, rfl, hlc, hcm⟩ := h.form
  have HL := Lib.hid h
  obtain ⟨w1, P, hw1, hP, hPl, hb1, hbox⟩ := box_any w #[.int .i64 f, .int .u32 m, .slice A l.length cA] 25
  obtain ⟨n, hn⟩ : ∃ n, l.length = n := ⟨_, rfl⟩
  rw [hn] at HL hlc hl hw1 hbox ⊢
  have HN := Lib.hid hn
  have HB1 := Lib.hid hb1
  have HBOX := Lib.hid hbox
  obtain ⟨r0, r1, r2⟩ := three_heads hbox
  clear h hn hb1 hbox
  unfold planA
  go_enter Tryz.func36, Tryz.ntmps36
  go_wp2_with fail
  clear hw1 hP r0 r1 r2
  go_loopg [4, 8] n (fun gg _ s8 wr => ∃ k : Nat, k ≤ n ∧ gg = n - k ∧ s8 = .int .i64 k ∧ Hid (∀ (i : Nat) (x : Pl), i < k → l[i]? = some x → WS f m x) ∧ Below w1.heap.size w1 wr)
  case atStart => exact ⟨0, Nat.zero_le _, by omega, rfl, fun i x h => absurd h (Nat.not_lt_zero _), Below.refl _ _⟩
  case round =>
    obtain ⟨k, hk, hg, rfl, HW, hbw⟩ := hrel
    have HBW := Lib.hid hbw
    have HB := Lib.hid (HB1.out.trans (hbw.mono HB1.out.size))
    have HG := Lib.hid hg
    have hPl2 : P < wr.heap.size := Nat.lt_of_lt_of_le hPl hbw.size
    have HBX := Lib.hid ((hbw.block P hPl).trans HBOX.out)
    obtain ⟨r0, r1, r2⟩ := three_heads HBX.out
    have HLR := Lib.hid (HL.out.keep HB.out)
    clear hbw hg
    by_cases hlt : k < n
    · have hk0 : (0 : Int) ≤ (k : Int) := by omega
      have hltz : (k : Int) < (n : Int) := by omega
      obtain ⟨x, hx⟩ := exP_at (xs := l) (k := k) (by rw [HN.out]; exact hlt)
      obtain ⟨b, off, B, d, hA, hbl, _, ⟨c0, c1, c2, c3⟩, hps⟩ := HLR.out.at_ hx
      subst hA
      simp only at c0 c1 c2 c3
      have HX := Lib.hid hx
      have HPS := Lib.hid hps
      clear hx hps
      obtain ⟨w2, N, hw2, hN, hNl, hb2, hxbox⟩ := box_any wr #[.int .i64 x.u, .int .i64 x.s, .int .i64 x.c, .slice B x.ps.length d] 43
      have HB2 := Lib.hid hb2
      have HXB := Lib.hid hxbox
      obtain ⟨x0, x1, x2, x3⟩ := four_heads hxbox
      obtain ⟨p0, p1, p2⟩ := three_heads (keep_block HBX.out hb2)
      clear hb2 hxbox
      have hxo := HLL.out.ok x (List.mem_of_getElem? HX.out)
      have HBS := Lib.hid (HBW.out.trans (HB2.out.mono HBW.out.size))
      have HBX2 := Lib.hid (keep_block HBX.out HB2.out)
      have HIC := Lib.hid (fun w => HIW.out B x.ps.length d x w)
      have HCC := Lib.hid (fun w => HHC.out (.slice (some ⟨b, off, none⟩) n cA) x.c w)
      have HXA := Lib.hid (show (∀ x ∈ l, WS f m x) → WS f m x from fun h => h x (List.mem_of_getElem? HX.out))
      have HWN : Hid (WS f m x → ∀ (i : Nat) (x : Pl), i < k + 1 → l[i]? = some x → WS f m x) := fun hws i y hi hy => by
        by_cases e : i = k
        · subst e; rw [HX.out] at hy; cases hy; exact hws
        · exact HW i y (by omega) hy
      have HSP := Lib.hid (fun W h => calls_iff (rightSplit_any f m (.slice (some ⟨b, off, none⟩) n cA) (.slice B x.ps.length d) x W h hxo.1 hxo.2 HM.out HF.out.1 HF.out.2))
      unfold planA plA at HSP
      have HWW := Lib.hid (fun h => ws_whole (f := f) (m := m) (x := x) h)
      have HWS := Lib.hid (fun h => ws_split (f := f) (m := m) (x := x) h)
      clear hxo
      cases hz : decide (x.ps.length = 0) with
      | true =>
        rw [hz] at HIC
        have HWI := Lib.hid (HWW.out (of_decide_eq_true hz))
        clear hz
        cases hh : hasC m x.c with
        | false =>
          rw [hh] at HCC HWI
          have HNO := Lib.hid (show ¬ (∀ x ∈ l, WS f m x) from fun h => by have := HWI.out.1 (HXA.out h); cases this)
          clear hh
          go_wp2_with fail
          refine (HIC.out _).mono ?_
          rintro e w3 ⟨rfl, hb3⟩
          have HB3 := Lib.hid (HBS.out.trans (hb3.mono HBS.out.size))
          obtain ⟨y0, y1, y2, y3⟩ := four_heads (keep_block HXB.out hb3)
          obtain ⟨q0, q1, q2⟩ := three_heads (keep_block HBX2.out hb3)
          clear hb3 x0 x1 x2 x3 p0 p1 p2
          go_wp2_with fail
          refine (HCC.out _).mono ?_
          rintro e w4 ⟨rfl, hb4⟩
          have HB4 := Lib.hid (HB1.out.trans ((HB3.out.trans (hb4.mono HB3.out.size)).mono HB1.out.size))
          clear hb4
          go_wp2_with fail
          go_ret
          exact RetIff.no HNO.out HB4.out
        | true =>
          rw [hh] at HCC HWI
          have HYES : Hid (∀ (i : Nat) (x : Pl), i < k + 1 → l[i]? = some x → WS f m x) := HWN (HWI.out.2 rfl)
          clear hh
          go_wp2_with fail
          refine (HIC.out _).mono ?_
          rintro e w3 ⟨rfl, hb3⟩
          have HB3 := Lib.hid (HBS.out.trans (hb3.mono HBS.out.size))
          have HXB3 := Lib.hid (keep_block HXB.out hb3)
          obtain ⟨y0, y1, y2, y3⟩ := four_heads HXB3.out
          obtain ⟨q0, q1, q2⟩ := three_heads (keep_block HBX2.out hb3)
          clear hb3 x0 x1 x2 x3 p0 p1 p2
          go_wp2_with fail
          refine (HCC.out _).mono ?_
          rintro e w4 ⟨rfl, hb4⟩
          have HB4 := Lib.hid (HB3.out.trans (hb4.mono HB3.out.size))
          obtain ⟨z0, z1, z2, z3⟩ := four_heads (keep_block HXB3.out hb4)
          clear hb4 y0 y1 y2 y3
          go_wp2_with fail
          refine (HIC.out _).mono ?_
          rintro e w5 ⟨rfl, hb5⟩
          have HB5 := Lib.hid (HB4.out.trans (hb5.mono HB4.out.size))
          clear hb5
          go_wp2_with fail
          go_roundg (n - (k + 1))
          case measure => have := HG.out; omega
          case rel => exact ⟨k + 1, by omega, rfl, by go_num, HYES, HB5.out⟩
      | false =>
        rw [hz] at HIC
        have HWI := Lib.hid (HWS.out (of_decide_eq_false hz))
        clear hz
        go_wp2_with fail
        refine (HIC.out _).mono ?_
        rintro e w3 ⟨rfl, hb3⟩
        have HB3 := Lib.hid (HBS.out.trans (hb3.mono HBS.out.size))
        have HXB3 := Lib.hid (keep_block HXB.out hb3)
        have HBX3 := Lib.hid (keep_block HBX2.out hb3)
        have HPS3 := Lib.hid ((HPS.out.keep HB2.out).keep hb3)
        obtain ⟨y0, y1, y2, y3⟩ := four_heads HXB3.out
        clear hb3 x0 x1 x2 x3 p0 p1 p2
        go_wp2_with fail
        refine (HIC.out _).mono ?_
        rintro e w4 ⟨rfl, hb4⟩
        have HB4 := Lib.hid (HB3.out.trans (hb4.mono HB3.out.size))
        have HBO4 := Lib.hid (HB1.out.trans (HB4.out.mono HB1.out.size))
        obtain ⟨z0, z1, z2, z3⟩ := four_heads (keep_block HXB3.out hb4)
        obtain ⟨q0, q1, q2⟩ := three_heads (keep_block HBX3.out hb4)
        have HPS4 := Lib.hid ((HPS3.out.any).keep hb4)
        clear hb4 y0 y1 y2 y3
        by_cases hsp : SplitOk f m x
        · have HSY := Lib.hid ((HSP.out w4 HPS4.out).1 hsp)
          have HYES : Hid (∀ (i : Nat) (x : Pl), i < k + 1 → l[i]? = some x → WS f m x) := HWN (HWI.out.2 hsp)
          clear hsp
          go_wp2_with fail
          refine HSY.out.mono ?_
          rintro e w5 ⟨rfl, hb5⟩
          have HB5 := Lib.hid (HB4.out.trans (hb5.mono HB4.out.size))
          clear hb5
          go_wp2_with fail
          go_roundg (n - (k + 1))
          case measure => have := HG.out; omega
          case rel => exact ⟨k + 1, by omega, rfl, by go_num, HYES, HB5.out⟩
        · have HSN := Lib.hid ((HSP.out w4 HPS4.out).2 hsp)
          have HNO := Lib.hid (show ¬ (∀ x ∈ l, WS f m x) from fun h => hsp (HWI.out.1 (HXA.out h)))
          clear hsp
          go_wp2_with fail
          refine HSN.out.mono ?_
          rintro e w5 ⟨rfl, hb5⟩
          have HB5 := Lib.hid (HBO4.out.trans (hb5.mono HBO4.out.size))
          clear hb5
          go_wp2_with fail
          go_ret
          exact RetIff.no HNO.out HB5.out
    · have hltz : ¬ (k : Int) < (n : Int) := by omega
      have HYE := Lib.hid (show ∀ x ∈ l, WS f m x from fun x hx => by
        obtain ⟨i, hi, e⟩ := List.getElem_of_mem hx
        exact HW i x (by have := HN.out; omega) (by rw [List.getElem?_eq_getElem hi, e]))
      go_wp2
      go_ret
      exact RetIff.yes HYE.out HB.out
end Go.Proofs.YtiadnpipbocecaaGreat
