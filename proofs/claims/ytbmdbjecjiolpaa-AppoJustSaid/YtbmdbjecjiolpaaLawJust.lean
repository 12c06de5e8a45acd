/-
  The law AppoJust: it returns true for any word and weights, and writes nothing that was there.
  Conditions: none.
-/
import Derived.Test.YtbmdbjecjiolpaaLawNear
set_option linter.unusedVariables false
namespace Go.Proofs.Ytbmdbjecjiolpaa
open Go.RowKit

theorem sumL_scale (k : Int) : ∀ ws : List Int, sumL (ws.map fun x => k * x) = k * sumL ws
  | [] => by simp [sumL]
  | a :: l => by
    have ih := sumL_scale k l
    simp only [sumL, List.map_cons, List.sum_cons] at ih ⊢
    rw [ih, Int.mul_add]
/-- k times the weights. -/
def scaled (k : Int) (ws : List Int) : List Int := ws.map fun x => k * x
theorem length_scaled (k : Int) (ws : List Int) : (scaled k ws).length = ws.length := by simp [scaled]
theorem scaled_at {k : Int} {ws : List Int} {i : Nat} {x : Int} (h : ws[i]? = some x) : (scaled k ws)[i]? = some (k * x) := by simp [scaled, h]
theorem qs_scaled {k : Int} {ws : List Int} (hW : 0 < sumL ws) : qs (k * sumL ws) ws = scaled k ws := by
  unfold qs scaled
  apply List.map_congr_left
  intro x _
  rw [Int.mul_assoc, Int.mul_comm (sumL ws) x, ← Int.mul_assoc]
  exact Int.mul_ediv_cancel _ (by omega)
theorem just_gr {k : Int} {ws : List Int} (h : Right ws) (k0 : 0 ≤ k) (k1 : k ≤ 15) {n : Nat} (hn : (n : Int) = k * sumL ws) : gr ws n = scaled k ws := by
  obtain ⟨w0, w1⟩ := h.sumBound
  have p0 : 0 ≤ k * sumL ws := Int.mul_nonneg k0 (by omega)
  have p1 : k * sumL ws ≤ 15 * 64000 := Int.mul_le_mul k1 w1 (by omega) (by omega)
  have e := qs_scaled (k := k) h.2.2
  have := gr_qs (T := k * sumL ws) h p0 (by omega) (n := n) (by rw [e]; unfold scaled; rw [sumL_scale]; exact hn)
  rw [this, e]
theorem just_largest {k : Int} {ws l : List Int} (h : Right ws) (hl : IsLargest (k * sumL ws) ws l) : l = scaled k ws := by
  have e := qs_scaled (k := k) h.2.2
  rw [hl.exact (by rw [e]; unfold scaled; exact sumL_scale k ws), e]
theorem just_lagRight {k : Int} {ws : List Int} (h : Right ws) (k0 : 0 ≤ k) (k1 : k ≤ 15) : LagRight ws (scaled k ws) := by
  refine ⟨h, length_scaled _ _, fun x hx => ?_⟩
  obtain ⟨y, hy, rfl⟩ := List.mem_map.1 hx
  have hb := h.2.1 y hy
  have p0 : 0 ≤ k * y := Int.mul_nonneg k0 hb.1
  have p1 : k * y ≤ 15 * 1000 := Int.mul_le_mul k1 hb.2 hb.1 (by omega)
  exact ⟨p0, by omega⟩
theorem just_lag {k : Int} {ws : List Int} {i : Nat} {x : Int} (h : ws[i]? = some x) : (lagL ws (scaled k ws))[i]? = some 0 := by
  rw [lagL_at h (scaled_at h)]
  unfold scaled
  rw [sumL_scale]
  congr 1
  rw [Int.mul_assoc, Int.mul_assoc, Int.mul_comm (sumL ws) x]
  omega

set_option maxRecDepth 100000 in
set_option maxHeartbeats 2000000 in
theorem justLaw_bad (k : Nat) (ws : List Int) (v : Value) (w : World) (hv : IntsAt w v ws) (hr : ¬ Right ws) :
    Calls Try.prog 7 #[.int .u16 k, v] w (Ans w) := by
  have HRA := right_any ws v w hv
  rw [rightB_false hr] at HRA
  have HRA := Lib.hid HRA
  clear hv hr
  go_enter Try.func7, Try.ntmps7
  go_wp2_with (first
    | (go_at_call 11; refine HRA.out.mono ?_; rintro e w' ⟨rfl, rfl⟩)
    | (go_at_call 13; refine (awake_any _).mono ?_; rintro e w4 ⟨rfl, hb4⟩))
  go_ret
  exact ⟨rfl, hb4⟩

set_option maxRecDepth 100000 in
set_option maxHeartbeats 4000000 in
theorem justLaw_ok (k : Nat) (ws : List Int) (v : Value) (w : World) (hv : IntsAt w v ws) (hk : k < 65536) (hr : Right ws) :
    Calls Try.prog 7 #[.int .u16 k, v] w (Ans w) := by
  have HRA := right_any ws v w hv
  rw [rightB_true hr] at HRA
  have HRA := Lib.hid HRA
  have HV := Lib.hid hv
  have HR := Lib.hid hr
  have l64 := hr.1
  obtain ⟨V0, V1⟩ := hr.sumBound
  obtain ⟨V, hVV⟩ : ∃ V, V = sumL ws := ⟨_, rfl⟩
  have HS := refSum_any ws v w hv hr.small
  rw [← hVV] at V0 V1 HS
  have HS := Lib.hid HS
  obtain ⟨m, hm⟩ : ∃ m, m = k % 16 := ⟨_, rfl⟩
  have em : ((k : Int) % 16) = (m : Int) := by omega
  have m15 : m ≤ 15 := by omega
  have p0 : 0 ≤ (m : Int) * V := Int.mul_nonneg (by omega) (by omega)
  have p1 : (m : Int) * V ≤ 15 * 64000 := Int.mul_le_mul (by omega) V1 (by omega) (by omega)
  obtain ⟨n, hn⟩ : ∃ n : Nat, (m : Int) * V = (n : Int) := ⟨((m : Int) * V).toNat, by omega⟩
  have hn1 : n ≤ 960000 := by omega
  have HN := Lib.hid hn
  have HVV := Lib.hid hVV
  have HEM := Lib.hid em
  have S1 := fun W hb => seats_ok n ws v W (HV.out.keep hb) ⟨by omega, by omega, hr⟩
  rw [just_gr (k := (m : Int)) hr (by omega) (by omega) (by rw [← hVV]; exact hn.symm)] at S1
  have HS1 := Lib.hid S1
  have HL1 := Lib.hid (fun W hb => (largest_ok n ws v W (HV.out.keep hb) ⟨by omega, by omega, hr⟩))
  obtain ⟨A, c, rfl, hl, hat⟩ := hv
  clear hat hr hVV hm p0 p1 S1 hn em
  have em2 := HEM.out
  have hn2 := HN.out
  go_enter Try.func7, Try.ntmps7
  go_wp2_with (first
    | (go_at_call 11; refine HRA.out.mono ?_; rintro e w' ⟨rfl, rfl⟩)
    | (go_at_call 16; refine HS.out.mono ?_; rintro e w' ⟨rfl, rfl⟩))
  refine (HS1.out w (Below.refl _ _)).mono ?_
  rintro e w1 ⟨v1, rfl, hi1, hb1⟩
  have HI1 := Lib.hid hi1
  have HB1 := Lib.hid hb1
  clear hi1 hb1
  go_wp2_with fail
  refine (HL1.out w1 HB1.out).mono ?_
  rintro e w2 ⟨v2, l, rfl, hlg, hi2, hb2⟩
  have hlg' : l = scaled m ws := just_largest HR.out (by rw [← HVV.out, HN.out]; exact hlg)
  rw [hlg'] at hi2
  have HI2 := Lib.hid hi2
  have HI1b := Lib.hid (HI1.out.keep hb2)
  have HB2 := Lib.hid (HB1.out.trans (hb2.mono HB1.out.size))
  have HLG := Lib.hid (lag_ok ws (scaled m ws) _ v1 w2 (HV.out.keep HB2.out) HI1b.out (just_lagRight HR.out (by omega) (by omega)))
  clear hlg hlg' hi2 hb2 HI1
  go_wp2_with fail
  refine HLG.out.mono ?_
  rintro e w3 ⟨v3, rfl, hi3, hb3⟩
  have HB3 := Lib.hid (HB2.out.trans (hb3.mono HB2.out.size))
  have hi1 := HI1b.out.keep hb3
  have hi2 := HI2.out.keep hb3
  have HI1c := Lib.hid hi1
  have HI2c := Lib.hid hi2
  have HI3c := Lib.hid hi3
  have HI0c := Lib.hid (HV.out.keep HB3.out)
  obtain ⟨A1, c1, rfl, _, _⟩ := hi1
  obtain ⟨A2, c2, rfl, _, _⟩ := hi2
  obtain ⟨A3, c3, rfl, _, _⟩ := hi3
  have L1 := Lib.hid (length_scaled (m : Int) ws)
  have L3 := Lib.hid (length_lagL (ws := ws) (hs := scaled (m : Int) ws) (length_scaled _ _))
  rw [L1.out] at HI1c HI2c ⊢
  rw [L3.out] at HI3c ⊢
  clear hb3
  go_wp2_with fail
  go_loopg [12] ws.length (fun q s wr => LagLawRel2 ws.length w3 q s wr)
  case atStart => exact ⟨0, Nat.zero_le _, rfl, rfl, Below.refl _ _⟩
  case round =>
    obtain ⟨j, hj, hq, rfl, hbw⟩ := hrel
    have HQ := Lib.hid hq
    have HW := Lib.hid hbw
    clear hq hbw
    by_cases hjl : j < ws.length
    · obtain ⟨x, hx⟩ := ex_at hjl
      obtain ⟨x1, x2⟩ := HR.out.at hx
      have h0 := HI0c.out.open_.2
      have h1 := HI1c.out.open_.2
      have h2 := HI2c.out.open_.2
      have h3 := HI3c.out.open_.2
      obtain ⟨ba, oa, rfl, ha, hca⟩ := h0 (by omega)
      obtain ⟨bb, ob, rfl, hb, hcb⟩ := h1 (by rw [length_scaled]; omega)
      obtain ⟨bc, oc, rfl, hc', hcc⟩ := h2 (by rw [length_scaled]; omega)
      obtain ⟨bd, od, rfl, hd', hcd⟩ := h3 (by rw [L3.out]; omega)
      have q0 : 0 ≤ (m : Int) * x := Int.mul_nonneg (by omega) x1
      have q1 : (m : Int) * x ≤ 15 * 1000 := Int.mul_le_mul (by omega) x2 x1 (by omega)
      obtain ⟨z, hz⟩ : ∃ z, z = (m : Int) * x := ⟨_, rfl⟩
      have e1 : IntKind.i64.wrap ((m : Int) * x) = z := by rw [IntWalk.i64_in _ (by omega), hz]
      have e2 : ((k : Int).tmod 16) = (m : Int) := by rw [Int.tmod_eq_emod_of_nonneg (by omega)]; exact HEM.out
      have e3 : IntKind.i64.wrap (m : Int) = (m : Int) := IntWalk.i64_in _ (by omega)
      have e4 : IntKind.u16.wrap (m : Int) = (m : Int) := by simp [IntKind.wrap_u16]; omega
      have ez : (z != z) = false := by simp
      have c1 : wr.cell? ⟨ba, oa + j, none⟩ = some (.int .i64 x) := (HW.out.cell (p := ⟨ba, oa + j, none⟩) ha).trans (hca j x hx)
      have c2 : wr.cell? ⟨bb, ob + j, none⟩ = some (.int .i64 z) := (HW.out.cell (p := ⟨bb, ob + j, none⟩) hb).trans (hcb j z (by rw [hz]; exact scaled_at hx))
      have c3 : wr.cell? ⟨bc, oc + j, none⟩ = some (.int .i64 z) := (HW.out.cell (p := ⟨bc, oc + j, none⟩) hc').trans (hcc j z (by rw [hz]; exact scaled_at hx))
      have c4 : wr.cell? ⟨bd, od + j, none⟩ = some (.int .i64 0) := (HW.out.cell (p := ⟨bd, od + j, none⟩) hd').trans (hcd j 0 (just_lag hx))
      clear hx hca hcb hcc hcd h0 h1 h2 h3 hz q0 q1
      go_wp2_with fail
      go_quiet (fail)
      go_wp2_with fail
      go_roundg (ws.length - (j + 1))
      case measure => have := HQ.out; omega
      case rel => exact ⟨j + 1, by omega, rfl, by go_num, below_drewN HW.out _⟩
    · go_wp2_with (go_at_call 13; refine (awake_any _).mono ?_; rintro e w4 ⟨rfl, hb4⟩)
      go_ret
      exact ⟨rfl, (HB3.out.trans (HW.out.mono HB3.out.size)).trans (hb4.mono (HB3.out.trans (HW.out.mono HB3.out.size)).size)⟩

theorem justLaw_any (k : Nat) (ws : List Int) (v : Value) (w : World) (hv : IntsAt w v ws) (hk : k < 65536) :
    Calls Try.prog 7 #[.int .u16 k, v] w (Ans w) := by
  by_cases hr : Right ws
  · exact justLaw_ok k ws v w hv hk hr
  · exact justLaw_bad k ws v w hv hr
end Go.Proofs.Ytbmdbjecjiolpaa
