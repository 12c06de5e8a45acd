/-
  The law AppoLag: it returns true for any two lists, and writes nothing that was there.
  Conditions: none.
-/
import Derived.Test.YtbmdbjecjiolpaaAwake
set_option linter.unusedVariables false
namespace Go.Proofs.Ytbmdbjecjiolpaa
open Go.RowKit

def LagLawRel (hs : List Int) (b : Bool) (s i : Value) : Prop := ∃ k : Nat, k ≤ hs.length ∧ i = .int .i64 k ∧ ∃ t : Bool, s = .bool t ∧ (t = true → b = true ∧ InH hs k)

set_option maxRecDepth 100000 in
set_option maxHeartbeats 2000000 in
theorem lagLaw_bad1 (ws hs : List Int) (u v : Value) (w : World) (hu : IntsAt w u ws) (hv : IntsAt w v hs) (hr : ¬ Right ws) (h : ¬ LagRight ws hs) :
    Calls Try.prog 8 #[u, v] w (Ans w) := by
  have HL := Lib.hid (lag_bad ws hs u v w hu hv h)
  have HU := Lib.hid hu
  have HV := Lib.hid hv
  have HRF := Lib.hid (rightB_false hr)
  clear hr
  obtain ⟨A, c, rfl, hl, hat⟩ := hu
  obtain ⟨B, d, rfl, hm, hbt⟩ := hv
  clear hat hbt h
  go_enter Try.func8, Try.ntmps8
  go_wp2_with fail
  refine HL.out.mono ?_
  rintro e w1 ⟨v1, rfl, hi1, hb1⟩
  obtain ⟨A1, c1, rfl, _, _⟩ := hi1
  have HB1 := Lib.hid hb1
  have hrt := right_any ws _ w1 (HU.out.keep hb1)
  rw [HRF.out] at hrt
  have HRT := Lib.hid hrt
  have HVa : Hid (0 < hs.length → ∃ b off, B = some ⟨b, off, none⟩ ∧ b < w1.heap.size ∧ ∀ (j : Nat) (x : Int), hs[j]? = some x → w1.cell? ⟨b, off + j, none⟩ = some (.int .i64 x)) := by
    obtain ⟨B', d', e1, _, h3⟩ := HV.out.keep hb1
    injection e1 with e1 _ _
    subst e1
    exact h3
  clear hb1 hrt
  go_wp2_with (go_at_call 11; refine HRT.out.mono ?_; rintro e w' ⟨rfl, rfl⟩)
  go_loop [7, 8] (fun s i => LagLawRel hs false s i) (fun _ i => hs.length - (intOf i).toNat)
  case atStart => exact ⟨0, Nat.zero_le _, rfl, false, rfl, fun h => ⟨h, InH.zero _⟩⟩
  case round =>
    obtain ⟨k, hk, rfl, t, rfl, ht⟩ := hrel
    have HT := Lib.hid ht
    clear ht
    by_cases hlt : k < hs.length
    · cases t
      · go_wp2_with fail
        go_round
        case rel => exact ⟨k + 1, by omega, by go_num, false, rfl, fun h => by cases h⟩
        case measure => simp [intOf]; omega
      · exact absurd (HT.out rfl).1 (by simp)
    · have htf : t = false := by
        cases t
        · rfl
        · exact absurd (HT.out rfl).1 (by simp)
      subst htf
      go_wp2_with (go_at_call 13; refine (awake_any _).mono ?_; rintro e w3 ⟨rfl, hb3⟩)
      go_ret
      exact ⟨rfl, HB1.out.trans (hb3.mono HB1.out.size)⟩

set_option maxRecDepth 100000 in
set_option maxHeartbeats 2000000 in
theorem lagLaw_bad2 (ws hs : List Int) (u v : Value) (w : World) (hu : IntsAt w u ws) (hv : IntsAt w v hs) (hr : Right ws) (hne : hs.length ≠ ws.length) (h : ¬ LagRight ws hs) :
    Calls Try.prog 8 #[u, v] w (Ans w) := by
  have HL := Lib.hid (lag_bad ws hs u v w hu hv h)
  have HU := Lib.hid hu
  have HV := Lib.hid hv
  have HRF := Lib.hid (rightB_true hr)
  have hn1 : ((ws.length : Int) == (hs.length : Int)) = false := by simp; omega
  clear hr hne
  obtain ⟨A, c, rfl, hl, hat⟩ := hu
  obtain ⟨B, d, rfl, hm, hbt⟩ := hv
  clear hat hbt h
  go_enter Try.func8, Try.ntmps8
  go_wp2_with fail
  refine HL.out.mono ?_
  rintro e w1 ⟨v1, rfl, hi1, hb1⟩
  obtain ⟨A1, c1, rfl, _, _⟩ := hi1
  have HB1 := Lib.hid hb1
  have hrt := right_any ws _ w1 (HU.out.keep hb1)
  rw [HRF.out] at hrt
  have HRT := Lib.hid hrt
  have HVa : Hid (0 < hs.length → ∃ b off, B = some ⟨b, off, none⟩ ∧ b < w1.heap.size ∧ ∀ (j : Nat) (x : Int), hs[j]? = some x → w1.cell? ⟨b, off + j, none⟩ = some (.int .i64 x)) := by
    obtain ⟨B', d', e1, _, h3⟩ := HV.out.keep hb1
    injection e1 with e1 _ _
    subst e1
    exact h3
  clear hb1 hrt
  go_wp2_with (go_at_call 11; refine HRT.out.mono ?_; rintro e w' ⟨rfl, rfl⟩)
  go_loop [7, 8] (fun s i => LagLawRel hs false s i) (fun _ i => hs.length - (intOf i).toNat)
  case atStart => exact ⟨0, Nat.zero_le _, rfl, false, rfl, fun h => ⟨h, InH.zero _⟩⟩
  case round =>
    obtain ⟨k, hk, rfl, t, rfl, ht⟩ := hrel
    have HT := Lib.hid ht
    clear ht
    by_cases hlt : k < hs.length
    · cases t
      · go_wp2_with fail
        go_round
        case rel => exact ⟨k + 1, by omega, by go_num, false, rfl, fun h => by cases h⟩
        case measure => simp [intOf]; omega
      · exact absurd (HT.out rfl).1 (by simp)
    · have htf : t = false := by
        cases t
        · rfl
        · exact absurd (HT.out rfl).1 (by simp)
      subst htf
      go_wp2_with (go_at_call 13; refine (awake_any _).mono ?_; rintro e w3 ⟨rfl, hb3⟩)
      go_ret
      exact ⟨rfl, HB1.out.trans (hb3.mono HB1.out.size)⟩

set_option maxRecDepth 100000 in
set_option maxHeartbeats 2000000 in
theorem lagLaw_bad3 (ws hs : List Int) (u v : Value) (w : World) (hu : IntsAt w u ws) (hv : IntsAt w v hs) (hr : Right ws) (hne : hs.length = ws.length) (h : ¬ LagRight ws hs) :
    Calls Try.prog 8 #[u, v] w (Ans w) := by
  have HL := Lib.hid (lag_bad ws hs u v w hu hv h)
  have HU := Lib.hid hu
  have HV := Lib.hid hv
  have HRF := Lib.hid (rightB_true hr)
  have HBAD := Lib.hid (show ¬ GoodH hs from fun hg => h ⟨hr, hne, hg⟩)
  have hn1 : ((ws.length : Int) == (hs.length : Int)) = true := by simp; omega
  clear hr hne
  obtain ⟨A, c, rfl, hl, hat⟩ := hu
  obtain ⟨B, d, rfl, hm, hbt⟩ := hv
  clear hat hbt h
  go_enter Try.func8, Try.ntmps8
  go_wp2_with fail
  refine HL.out.mono ?_
  rintro e w1 ⟨v1, rfl, hi1, hb1⟩
  obtain ⟨A1, c1, rfl, _, _⟩ := hi1
  have HB1 := Lib.hid hb1
  have hrt := right_any ws _ w1 (HU.out.keep hb1)
  rw [HRF.out] at hrt
  have HRT := Lib.hid hrt
  have HVa : Hid (0 < hs.length → ∃ b off, B = some ⟨b, off, none⟩ ∧ b < w1.heap.size ∧ ∀ (j : Nat) (x : Int), hs[j]? = some x → w1.cell? ⟨b, off + j, none⟩ = some (.int .i64 x)) := by
    obtain ⟨B', d', e1, _, h3⟩ := HV.out.keep hb1
    injection e1 with e1 _ _
    subst e1
    exact h3
  clear hb1 hrt
  go_wp2_with (go_at_call 11; refine HRT.out.mono ?_; rintro e w' ⟨rfl, rfl⟩)
  go_loop [7, 8] (fun s i => LagLawRel hs true s i) (fun _ i => hs.length - (intOf i).toNat)
  case atStart => exact ⟨0, Nat.zero_le _, rfl, true, rfl, fun h => ⟨h, InH.zero _⟩⟩
  case round =>
    obtain ⟨k, hk, rfl, t, rfl, ht⟩ := hrel
    have HT := Lib.hid ht
    clear ht
    by_cases hlt : k < hs.length
    · cases t
      · go_wp2_with fail
        go_round
        case rel => exact ⟨k + 1, by omega, by go_num, false, rfl, fun h => by cases h⟩
        case measure => simp [intOf]; omega
      · have HT2 := Lib.hid (HT.out rfl).2
        clear HT
        obtain ⟨x, hx⟩ := ex_at hlt
        obtain ⟨b2, o2, rfl, h2, hc⟩ := HVa.out (by omega)
        have hck := hc k x hx
        have HX := Lib.hid hx
        clear hc hx
        by_cases hx1 : 0 ≤ x ∧ x ≤ 1048576
        · have HTY := Lib.hid (fun W => total_yes x W hx1.1 hx1.2)
          have HX1 := Lib.hid hx1
          clear hx1
          go_wp2_with (go_at_call 12; refine (HTY.out _).mono ?_; rintro e w' ⟨rfl, rfl⟩)
          go_round
          case rel => exact ⟨k + 1, by omega, by go_num, true, rfl, fun _ => ⟨rfl, HT2.out.succ HX.out HX1.out.1 HX1.out.2⟩⟩
          case measure => simp [intOf]; omega
        · have HTN := Lib.hid (fun W => total_no x W (by omega))
          clear hx1
          go_wp2_with (go_at_call 12; refine (HTN.out _).mono ?_; rintro e w' ⟨rfl, rfl⟩)
          go_round
          case rel => exact ⟨k + 1, by omega, by go_num, false, rfl, fun h => by cases h⟩
          case measure => simp [intOf]; omega
    · have htf : t = false := by
        cases t
        · rfl
        · exact absurd ((HT.out rfl).2.all (by omega)) HBAD.out
      subst htf
      go_wp2_with (go_at_call 13; refine (awake_any _).mono ?_; rintro e w3 ⟨rfl, hb3⟩)
      go_ret
      exact ⟨rfl, HB1.out.trans (hb3.mono HB1.out.size)⟩

def LagLawRel2 (n : Nat) (w1 : World) (q : Nat) (s : Value) (wr : World) : Prop := ∃ k : Nat, k ≤ n ∧ q = n - k ∧ s = .int .i64 k ∧ Below w1.heap.size w1 wr

set_option maxRecDepth 100000 in
set_option maxHeartbeats 2000000 in
theorem lagLaw_ok (ws hs : List Int) (u v : Value) (w : World) (hu : IntsAt w u ws) (hv : IntsAt w v hs) (h : LagRight ws hs) :
    Calls Try.prog 8 #[u, v] w (Ans w) := by
  have HL := Lib.hid (lag_ok ws hs u v w hu hv h)
  have HU := Lib.hid hu
  have HV := Lib.hid hv
  have H := Lib.hid h
  have HRF := Lib.hid (rightB_true h.1)
  have hn1 : ((ws.length : Int) == (hs.length : Int)) = true := by have := h.2.1; simp; omega
  have hl64 := h.1.1
  have hln := h.2.1
  obtain ⟨A, c, rfl, hl, hat⟩ := hu
  obtain ⟨B, d, rfl, hm, hbt⟩ := hv
  have hhl : hs.length ≤ 64 := by omega
  have HLN := Lib.hid hln
  clear hat hbt h hln
  go_enter Try.func8, Try.ntmps8
  go_wp2_with fail
  refine HL.out.mono ?_
  rintro e w1 ⟨v1, rfl, hi1, hb1⟩
  have HI1 := Lib.hid hi1
  have HB1 := Lib.hid hb1
  have hrt := right_any ws _ w1 (HU.out.keep hb1)
  rw [HRF.out] at hrt
  have HRT := Lib.hid hrt
  have HUa := Lib.hid (HU.out.keep hb1)
  have HVa := Lib.hid (HV.out.keep hb1)
  have HS1 := refSum_any (lagL ws hs) v1 w1 hi1 (lag_small H.out)
  rw [sumL_lagL H.out.2.1] at HS1
  have HS1 := Lib.hid HS1
  obtain ⟨A1, c1, rfl, _, hat1⟩ := hi1
  rw [length_lagL H.out.2.1] at HI1 HS1 hat1 ⊢
  have HAT1 := Lib.hid hat1
  have HATu : Hid (0 < ws.length → ∃ b off, A = some ⟨b, off, none⟩ ∧ b < w1.heap.size ∧ ∀ (j : Nat) (x : Int), ws[j]? = some x → w1.cell? ⟨b, off + j, none⟩ = some (.int .i64 x)) := by
    obtain ⟨B', d', e1, _, h3⟩ := HU.out.keep hb1
    injection e1 with e1 _ _
    subst e1
    exact h3
  have HATv : Hid (0 < hs.length → ∃ b off, B = some ⟨b, off, none⟩ ∧ b < w1.heap.size ∧ ∀ (j : Nat) (x : Int), hs[j]? = some x → w1.cell? ⟨b, off + j, none⟩ = some (.int .i64 x)) := by
    obtain ⟨B', d', e1, _, h3⟩ := HV.out.keep hb1
    injection e1 with e1 _ _
    subst e1
    exact h3
  clear hb1 hrt hat1
  go_wp2_with (go_at_call 11; refine HRT.out.mono ?_; rintro e w' ⟨rfl, rfl⟩)
  go_loop [7, 8] (fun s i => s = .bool true ∧ ∃ k : Nat, k ≤ hs.length ∧ i = .int .i64 k) (fun _ i => hs.length - (intOf i).toNat)
  case atStart => exact ⟨rfl, 0, Nat.zero_le _, rfl⟩
  case round =>
    obtain ⟨rfl, k, hk, rfl⟩ := hrel
    by_cases hlt : k < hs.length
    · obtain ⟨x, hx⟩ := ex_at hlt
      obtain ⟨b2, o2, rfl, h2, hc⟩ := HATv.out (by omega)
      have hck := hc k x hx
      have hx1 := H.out.2.2 x (List.mem_of_getElem? hx)
      have HTY := Lib.hid (fun W => total_yes x W hx1.1 hx1.2)
      clear hc hx hx1
      go_wp2_with (go_at_call 12; refine (HTY.out _).mono ?_; rintro e w' ⟨rfl, rfl⟩)
      go_round
      case rel => exact ⟨rfl, k + 1, by omega, by go_num⟩
      case measure => simp [intOf]; omega
    · go_wp2_with (go_at_call 16; refine HS1.out.mono ?_; rintro e w' ⟨rfl, rfl⟩)
      go_loopg [9] ws.length (fun q s wr => LagLawRel2 ws.length w1 q s wr)
      case atStart => exact ⟨0, Nat.zero_le _, rfl, rfl, Below.refl _ _⟩
      case round =>
        obtain ⟨j, hj, hq, rfl, hbw⟩ := hrel
        have HQ := Lib.hid hq
        have HW := Lib.hid hbw
        clear hq hbw
        by_cases hjl : j < ws.length
        · have hjh : j < hs.length := by have := HLN.out; omega
          obtain ⟨x, hx⟩ := ex_at hjl
          obtain ⟨y, hy⟩ := ex_at hjh
          have hz := lagL_at hx hy
          obtain ⟨⟨p1, p2⟩, p3, p4⟩ := lag_parts H.out (H.out.1.at hx) (H.out.2.2 y (List.mem_of_getElem? hy))
          obtain ⟨S, hS⟩ : ∃ S, S = sumL hs := ⟨_, rfl⟩
          obtain ⟨V, hV⟩ : ∃ V, V = sumL ws := ⟨_, rfl⟩
          rw [← hS, ← hV] at hz
          rw [← hS] at p1 p2
          rw [← hV] at p3 p4
          have e1 : IntKind.i64.wrap (S * x) = S * x := IntWalk.i64_in _ (by omega)
          have e2 : IntKind.i64.wrap (y * V) = y * V := IntWalk.i64_in _ (by omega)
          have e3' : IntKind.i64.wrap (S * x - y * V) = S * x - y * V := IntWalk.i64_in _ (by omega)
          obtain ⟨z, hzz⟩ : ∃ z, z = S * x - y * V := ⟨_, rfl⟩
          rw [← hzz] at hz
          have e3 : IntKind.i64.wrap (S * x - y * V) = z := by rw [e3', hzz]
          have ez : (z != z) = false := by simp
          obtain ⟨ba, oa, rfl, ha, hca⟩ := HATu.out (by omega)
          obtain ⟨bb, ob, rfl, hb, hcb⟩ := HATv.out (by omega)
          obtain ⟨bc, oc, rfl, hc', hcc⟩ := HAT1.out (by omega)
          have c1 : wr.cell? ⟨ba, oa + j, none⟩ = some (.int .i64 x) := (HW.out.cell (p := ⟨ba, oa + j, none⟩) ha).trans (hca j x hx)
          have c2 : wr.cell? ⟨bb, ob + j, none⟩ = some (.int .i64 y) := (HW.out.cell (p := ⟨bb, ob + j, none⟩) hb).trans (hcb j y hy)
          have c3 : wr.cell? ⟨bc, oc + j, none⟩ = some (.int .i64 z) := (HW.out.cell (p := ⟨bc, oc + j, none⟩) hc').trans (hcc j z hz)
          have SH := Lib.hid (fun m => by have := refSum_any hs _ (wr.drewN m) (HVa.out.keep (below_drewN HW.out m)) (good_small H.out); rw [← hS] at this; exact this)
          have SW := Lib.hid (fun m => by have := refSum_any ws _ (wr.drewN m) (HUa.out.keep (below_drewN HW.out m)) H.out.1.small; rw [← hV] at this; exact this)
          clear hx hy hz hzz hS hV hca hcb hcc e3' p1 p2 p3 p4
          go_wp2_with fail
          go_quiet ((go_at_call 16; first | (with_reducible exact quiet_ret (SH.out _)) | (with_reducible exact quiet_ret (SW.out _))))
          go_wp2_with fail
          go_roundg (ws.length - (j + 1))
          case measure => have := HQ.out; omega
          case rel => exact ⟨j + 1, by omega, rfl, by go_num, below_drewN HW.out _⟩
        · go_wp2_with (go_at_call 13; refine (awake_any _).mono ?_; rintro e w3 ⟨rfl, hb3⟩)
          go_ret
          exact ⟨rfl, (HB1.out.trans (HW.out.mono HB1.out.size)).trans (hb3.mono (HB1.out.trans (HW.out.mono HB1.out.size)).size)⟩

theorem lagLaw_any (ws hs : List Int) (u v : Value) (w : World) (hu : IntsAt w u ws) (hv : IntsAt w v hs) :
    Calls Try.prog 8 #[u, v] w (Ans w) := by
  by_cases h : LagRight ws hs
  · exact lagLaw_ok ws hs u v w hu hv h
  · by_cases hr : Right ws
    · by_cases hne : hs.length = ws.length
      · exact lagLaw_bad3 ws hs u v w hu hv hr hne h
      · exact lagLaw_bad2 ws hs u v w hu hv hr hne h
    · exact lagLaw_bad1 ws hs u v w hu hv hr h
end Go.Proofs.Ytbmdbjecjiolpaa
