/-
  The law AppoNear: it returns true for any total and weights, and writes nothing that was there.
  Conditions: none.
-/
import Derived.Test.YtbmdbjecjiolpaaLawLag
set_option linter.unusedVariables false
namespace Go.Proofs.Ytbmdbjecjiolpaa
open Go.RowKit

/-- How a list lies in a world, its address apart. -/
theorem IntsAt.open_ {W : World} {A : Option Addr} {n c : Nat} {xs : List Int} (h : IntsAt W (.slice A n c) xs) :
    n = xs.length ∧ (0 < xs.length → ∃ b off, A = some ⟨b, off, none⟩ ∧ b < W.heap.size ∧ ∀ (j : Nat) (x : Int), xs[j]? = some x → W.cell? ⟨b, off + j, none⟩ = some (.int .i64 x)) := by
  obtain ⟨B', d', e1, _, h3⟩ := h
  injection e1 with e1 e2 _
  subst e1
  exact ⟨e2, h3⟩

set_option maxRecDepth 100000 in
set_option maxHeartbeats 2000000 in
theorem nearLaw_bad (T : Int) (ws : List Int) (v : Value) (w : World) (hv : IntsAt w v ws) (h : ¬ AllRight T ws) :
    Calls Try.prog 4 #[.int .i64 T, v] w (Ans w) := by
  have HL := Lib.hid (largest_bad T ws v w hv h)
  obtain ⟨A, c, rfl, hl, hat⟩ := hv
  clear hat h
  go_enter Try.func4, Try.ntmps4
  go_wp2_with fail
  refine HL.out.mono ?_
  rintro e w1 ⟨v1, rfl, hi1, hb1⟩
  obtain ⟨A1, c1, rfl, _, _⟩ := hi1
  have HB1 := Lib.hid hb1
  clear hb1
  go_wp2_with (go_at_call 13; refine (awake_any _).mono ?_; rintro e w3 ⟨rfl, hb3⟩)
  go_ret
  exact ⟨rfl, HB1.out.trans (hb3.mono HB1.out.size)⟩

theorem IsLargest.small {T : Int} {ws l : List Int} (h : IsLargest T ws l) (hr : Right ws) (hT0 : 0 ≤ T) (hT : T ≤ 1048576) : Small l := by
  refine ⟨by rw [h.length]; exact hr.1, fun x hx => ?_⟩
  obtain ⟨i, hi, rfl⟩ := mem_getD hx
  have := h.bound hr hT0 hT i (by rw [h.length] at hi; exact hi)
  omega

set_option maxRecDepth 100000 in
set_option maxHeartbeats 2000000 in
theorem nearLaw_ok (T : Int) (ws : List Int) (v : Value) (w : World) (hv : IntsAt w v ws) (h : AllRight T ws) :
    Calls Try.prog 4 #[.int .i64 T, v] w (Ans w) := by
  have HL := Lib.hid (largest_ok T ws v w hv h)
  have HV := Lib.hid hv
  obtain ⟨h0, h1, hr⟩ := h
  have HR := Lib.hid hr
  have hl64 := hr.1
  obtain ⟨V0, V1⟩ := hr.sumBound
  obtain ⟨V, hVV⟩ : ∃ V, V = sumL ws := ⟨_, rfl⟩
  rw [← hVV] at V0 V1
  have HVV := Lib.hid hVV
  obtain ⟨A, c, rfl, hl, hat⟩ := hv
  clear hat hr hVV
  go_enter Try.func4, Try.ntmps4
  go_wp2_with fail
  refine HL.out.mono ?_
  rintro e w1 ⟨v1, l, rfl, hlg, hi1, hb1⟩
  have HLG := Lib.hid hlg
  have HB1 := Lib.hid hb1
  have HVa := HV.out.keep hb1
  have HS1 := refSum_any ws _ w1 HVa HR.out.small
  rw [← HVV.out] at HS1
  have HS1 := Lib.hid HS1
  have HS2 := refSum_any l v1 w1 hi1 (hlg.small HR.out h0 h1)
  rw [hlg.sum HR.out] at HS2
  have HAT := Lib.hid HVa.open_.2
  have hll := hlg.length
  obtain ⟨A1, c1, rfl, hm1, hat1⟩ := hi1
  rw [hll] at HS2 hat1 ⊢
  have HS2 := Lib.hid HS2
  have HAT1 := Lib.hid hat1
  have tT : (T != T) = false := by simp
  clear hlg hb1 HVa hat1 hm1 hll
  go_wp2_with (go_at_call 16; first | ((with_reducible refine HS1.out.mono ?_); rintro e w' ⟨rfl, rfl⟩) | ((with_reducible refine HS2.out.mono ?_); rintro e w' ⟨rfl, rfl⟩))
  go_loopg [8] ws.length (fun q s wr => LagLawRel2 ws.length w1 q s wr)
  case atStart => exact ⟨0, Nat.zero_le _, rfl, rfl, Below.refl _ _⟩
  case round =>
    obtain ⟨j, hj, hq, rfl, hbw⟩ := hrel
    have HQ := Lib.hid hq
    have HW := Lib.hid hbw
    clear hq hbw
    by_cases hjl : j < ws.length
    · obtain ⟨x, hx⟩ := ex_at hjl
      obtain ⟨y, hy⟩ := ex_at (xs := l) (k := j) (by rw [HLG.out.length]; exact hjl)
      obtain ⟨x1, x2⟩ := HR.out.at hx
      have hbd := HLG.out.bound HR.out h0 h1 j hjl
      have hnear := HLG.out.near HR.out j hjl
      rw [getD_of hy] at hbd hnear
      rw [getD_of hx, ← HVV.out] at hnear
      obtain ⟨y1, y2⟩ := hbd
      have p0 : 0 ≤ y * V := Int.mul_nonneg y1 (by omega)
      have p1 : y * V ≤ 1048576001 * 64000 := Int.mul_le_mul y2 V1 (by omega) (by omega)
      have p2 : 0 ≤ T * x := Int.mul_nonneg h0 x1
      have p3 : T * x ≤ 1048576 * 1000 := Int.mul_le_mul h1 x2 x1 (by omega)
      have t1 : decide (y * V ≤ T * x - V) = false := decide_eq_false (by omega)
      have t2 : decide (T * x + V ≤ y * V) = false := decide_eq_false (by omega)
      have t2' : decide (y * V ≥ T * x + V) = false := decide_eq_false (by omega)
      have e1 : IntKind.i64.wrap (y * V) = y * V := IntWalk.i64_in _ (by omega)
      have e2 : IntKind.i64.wrap (T * x) = T * x := IntWalk.i64_in _ (by omega)
      have e3 : IntKind.i64.wrap (T * x - V) = T * x - V := IntWalk.i64_in _ (by omega)
      have e4 : IntKind.i64.wrap (T * x + V) = T * x + V := IntWalk.i64_in _ (by omega)
      obtain ⟨ba, oa, rfl, ha, hca⟩ := HAT.out (by omega)
      obtain ⟨bc, oc, rfl, hc', hcc⟩ := HAT1.out (by omega)
      have c1 : wr.cell? ⟨ba, oa + j, none⟩ = some (.int .i64 x) := (HW.out.cell (p := ⟨ba, oa + j, none⟩) ha).trans (hca j x hx)
      have c2 : wr.cell? ⟨bc, oc + j, none⟩ = some (.int .i64 y) := (HW.out.cell (p := ⟨bc, oc + j, none⟩) hc').trans (hcc j y hy)
      clear hx hy hca hcc hnear p0 p1 p2 p3
      go_wp2_with fail
      go_quiet (fail)
      go_wp2_with fail
      go_roundg (ws.length - (j + 1))
      case measure => have := HQ.out; omega
      case rel => exact ⟨j + 1, by omega, rfl, by go_num, below_drewN HW.out _⟩
    · go_wp2_with (go_at_call 13; refine (awake_any _).mono ?_; rintro e w3 ⟨rfl, hb3⟩)
      go_ret
      exact ⟨rfl, (HB1.out.trans (HW.out.mono HB1.out.size)).trans (hb3.mono (HB1.out.trans (HW.out.mono HB1.out.size)).size)⟩

theorem nearLaw_any (T : Int) (ws : List Int) (v : Value) (w : World) (hv : IntsAt w v ws) (_ : -9223372036854775808 ≤ T) (_ : T ≤ 9223372036854775807) :
    Calls Try.prog 4 #[.int .i64 T, v] w (Ans w) := by
  by_cases h : AllRight T ws
  · exact nearLaw_ok T ws v w hv h
  · exact nearLaw_bad T ws v w hv h
end Go.Proofs.Ytbmdbjecjiolpaa
