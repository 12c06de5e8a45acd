/-
  RecordSplits walked.
  Conditions: the argument reads as bytes.
-/
import Derived.Test.YtlnheknhdabhdaaLawAll
import Derived.Test.YtlnheknhdabhdaaRefSplit
set_option linter.unusedVariables false
namespace Go.Proofs.Ytlnheknhdabhdaa
open Go.RowKit

theorem rightT_take {rs : List Rc} {i : Nat} {r : Rc} (h : rs[i]? = some r) : rightT (rs.take (i + 1)) = rightT (rs.take i) + (if r.ok = true then 1 else 0) := by
  rw [List.take_add_one, h, rightT_append]
  rfl
def SplitsRel (rs : List Rc) (w : World) (g : Nat) (s7 s8 : Value) (wr : World) : Prop :=
  ∃ i : Nat, i ≤ rs.length ∧ g = rs.length - i ∧ s7 = .int .i64 (rightT (rs.take i)) ∧ s8 = .int .i64 i ∧ Below w.heap.size w wr
theorem fst_at {l : List (Rc × Value)} {rs : List Rc} (h : l.map Prod.fst = rs) {i : Nat} {r : Rc} (hr : rs[i]? = some r) : ∃ u, l[i]? = some (r, u) := by
  rw [← h, List.getElem?_map] at hr
  obtain ⟨p, hp, e⟩ := Option.map_eq_some_iff.1 hr
  exact ⟨p.2, by rw [hp, ← e]⟩

set_option maxRecDepth 100000 in
set_option maxHeartbeats 4000000 in
theorem splits_law (bs : List Nat) (v : Value) (w : World) (hv : BytesAt w v bs) : Calls Try.prog 3 #[v] w (RetB (.bool true) w) := by
  have HAW := Lib.hid (fun W => awake_any W)
  have HSP := Lib.hid (fun h => split_any v bs w hv h)
  have HRS := Lib.hid (fun h W (hb : Below w.heap.size w W) => refSplit_any v bs W (hv.keep hb) h)
  have HCN := Lib.hid (fun h W (hb : Below w.heap.size w W) => count_any v bs W (hv.keep hb) h)
  have HS1 := Lib.hid (fun W (hb : Below w.heap.size w W) => sum_any v bs W (hv.keep hb))
  have HS2 := Lib.hid (fun W (hb : Below w.heap.size w W) => refSum_any v bs W (hv.keep hb))
  obtain ⟨A, c, rfl, _⟩ := hv
  have hsl := splitT_length bs bs.length 0 (by omega)
  have hrw := right_wrong (splitT bs 0)
  generalize hn : bs.length = n at *
  have HN := Lib.hid hn
  clear hn
  by_cases hg : 3000 < n
  · have y1 : 3000 < (n : Int) := by omega
    clear hg hsl hrw
    go_enter Try.func3, Try.ntmps3
    go_wp2_with (go_at_call 8; refine (HAW.out _).mono ?_; rintro e w' ⟨rfl, hb⟩)
    go_ret
    exact ⟨rfl, hb⟩
  · have y1 : ¬ 3000 < (n : Int) := by omega
    have HS := Lib.hid (HSP.out (by omega))
    have HR := Lib.hid (fun W hb => HRS.out (by omega) W hb)
    have HC := Lib.hid (fun W hb => HCN.out (by omega) W hb)
    have HRT : Hid (rightT ((splitT bs 0).take (splitT bs 0).length) = rightT (splitT bs 0)) := Lib.hid (by rw [List.take_length])
    generalize splitT bs 0 = rs at *
    generalize crc bs = cc at *
    clear HSP HRS HCN
    obtain ⟨R, hR⟩ : ∃ x, rightT rs = x := ⟨_, rfl⟩
    obtain ⟨Q, hQ⟩ : ∃ x, wrongT rs = x := ⟨_, rfl⟩
    rw [hR, hQ] at HC hrw
    rw [hR] at HRT
    generalize hL : rs.length = L at *
    have HLL := Lib.hid hL
    have hrq : (R : Int) + (Q : Int) = (L : Int) := by omega
    have hLb : L ≤ 3000 := by omega
    have hRb : R ≤ 3000 := by omega
    have hQb : Q ≤ 3000 := by omega
    clear hR hQ hrw hL hsl hg
    go_enter Try.func3, Try.ntmps3
    go_wp2_with fail
    refine HS.out.mono ?_
    rintro e w1 ⟨v1, l1, rfl, hm1, hra1, hb1⟩
    have HM1 := Lib.hid hm1
    have HB1 := Lib.hid hb1
    have HRA1 := Lib.hid hra1
    have hl1 : l1.length = L := by rw [← HLL.out, ← hm1, List.length_map]
    clear hm1 hb1 hra1 HS
    go_wp2_with fail
    refine (HR.out _ HB1.out).mono ?_
    rintro e w2 ⟨v2, l2, rfl, hm2, hra2, hb2⟩
    have HM2 := Lib.hid hm2
    have HB2 := Lib.hid (over2 HB1.out hb2)
    have HRA2 := Lib.hid hra2
    have HRA1' := Lib.hid (HRA1.out.keep hb2)
    have hl2 : l2.length = L := by rw [← HLL.out, ← hm2, List.length_map]
    clear hm2 hb2 hra2 HR HRA1
    go_wp2_with fail
    refine (HC.out _ HB2.out).mono ?_
    rintro e w3 ⟨rfl, hb3⟩
    have HB3 := Lib.hid (over2 HB2.out hb3)
    have HA1 := Lib.hid (HRA1'.out.keep hb3)
    have HA2 := Lib.hid (HRA2.out.keep hb3)
    clear hb3 HC HRA2 HRA1'
    have a1 := HA1.out
    have a2 := HA2.out
    obtain ⟨A1, c1, rfl, k11, k12, k13, k14⟩ := a1
    obtain ⟨A2, c2, rfl, k21, k22, k23, k24⟩ := a2
    rw [hl1] at *
    rw [hl2] at *
    have HAT1 := Lib.hid k13
    have HAT2 := Lib.hid k23
    have HBD1 := Lib.hid k14
    have HBD2 := Lib.hid k24
    clear k13 k23 k14 k24 HA1 HA2 hl1 hl2
    go_wp2_with (first | (go_at_call 12; refine (HS1.out _ HB3.out).mono ?_; rintro e w' ⟨rfl, rfl⟩) | (go_at_call 13; refine (HS2.out _ HB3.out).mono ?_; rintro e w' ⟨rfl, rfl⟩))
    go_loopg [7, 8] L (fun g s7 s8 wr => SplitsRel rs w3 g s7 s8 wr)
    case atStart => exact ⟨0, Nat.zero_le _, by rw [HLL.out]; rfl, rfl, rfl, Below.refl _ _⟩
    case round =>
      obtain ⟨i, hi, hgk, rfl, rfl, hbw⟩ := hrel
      have HG := Lib.hid hgk
      have HB := Lib.hid hbw
      rw [HLL.out] at hi
      clear hgk
      by_cases hlt : i < L
      · obtain ⟨g1, hA1, hg1, hcell1⟩ := HAT1.out (by omega)
        obtain ⟨g2, hA2, hg2, hcell2⟩ := HAT2.out (by omega)
        subst hA1 hA2
        obtain ⟨r, hr⟩ := ex_at (xs := rs) (k := i) (by rw [HLL.out]; exact hlt)
        obtain ⟨u1, hp1⟩ := fst_at HM1.out hr
        obtain ⟨u2, hp2⟩ := fst_at HM2.out hr
        obtain ⟨c0, c1', c2', c3⟩ := hcell1 i _ hp1
        obtain ⟨d0, d1, d2, d3⟩ := hcell2 i _ hp2
        have j0 := (hbw.cell (p := ⟨g1, i * 4, none⟩) hg1).trans c0
        have j1 := (hbw.cell (p := ⟨g1, i * 4 + 1, none⟩) hg1).trans c1'
        have j2 := (hbw.cell (p := ⟨g1, i * 4 + 2, none⟩) hg1).trans c2'
        have j3 := (hbw.cell (p := ⟨g1, i * 4 + 3, none⟩) hg1).trans c3
        have m0 := (hbw.cell (p := ⟨g2, i * 4, none⟩) hg2).trans d0
        have m1 := (hbw.cell (p := ⟨g2, i * 4 + 1, none⟩) hg2).trans d1
        have m2 := (hbw.cell (p := ⟨g2, i * 4 + 2, none⟩) hg2).trans d2
        have m3 := (hbw.cell (p := ⟨g2, i * 4 + 3, none⟩) hg2).trans d3
        have b1 : BytesAt wr u1 r.body := (HBD1.out _ (List.mem_of_getElem? hp1)).keep hbw
        have b2 : BytesAt wr u2 r.body := (HBD2.out _ (List.mem_of_getElem? hp2)).keep hbw
        have hcv1 := fun m => conv_text (b1.keep (below_drewN (Below.refl _ _) m)) Try.underlying22 Try.underlying5 Try.underlying9
        have hcv2 := fun m => conv_text (b2.keep (below_drewN (Below.refl _ _) m)) Try.underlying22 Try.underlying5 Try.underlying9
        obtain ⟨B1, e1, rfl, _⟩ := b1
        obtain ⟨B2, e2, rfl, _⟩ := b2
        have HRT2 := Lib.hid (rightT_take hr)
        obtain ⟨at_, len, ok, body⟩ := r
        simp only at j0 j1 j2 j3 m0 m1 m2 m3 hcv1 hcv2 HRT2
        generalize textOf body = X at *
        generalize body.length = bl at *
        unfold errV at j3
        unfold okV at m3
        have hrt : rightT (rs.take i) ≤ 3000 := by
          have h1 := right_wrong (rs.take i)
          have h2 : (rs.take i).length ≤ i := by rw [List.length_take]; omega
          omega
        generalize rightT (rs.take i) = q at *
        have hiz : (i : Int) < (L : Int) := by omega
        have hi0 : (0 : Int) ≤ (i : Int) := by omega
        have KME := Lib.hid (show L - (i + 1) < gk by have := HG.out; have := HLL.out; omega)
        clear hcell1 hcell2 c0 c1' c2' c3 d0 d1 d2 d3 hr hp1 hp2 hbw
        cases ok
        · simp only [if_neg, Bool.false_eq_true, not_false_eq_true, Nat.add_zero] at j3 HRT2
          go_wp2_with fail
          go_quiet (fail)
          go_wp2_with fail
          go_roundg (L - (i + 1))
          case measure => exact KME.out
          case rel => exact ⟨i + 1, by rw [HLL.out]; omega, by rw [HLL.out], by rw [HRT2.out], by go_num, below_drewN HB.out _⟩
        · simp only [if_pos] at j3 HRT2
          go_wp2_with fail
          go_quiet (fail)
          go_wp2_with fail
          go_roundg (L - (i + 1))
          case measure => exact KME.out
          case rel => exact ⟨i + 1, by rw [HLL.out]; omega, by rw [HLL.out], by rw [HRT2.out]; go_num, by go_num, below_drewN HB.out _⟩
      · have hiL : i = L := by omega
        have hq : rightT (rs.take i) = R := by rw [hiL]; exact HRT.out
        have hiz : ¬ (i : Int) < (L : Int) := by omega
        rw [hq]
        clear hbw hq
        go_wp2_with (go_at_call 8; refine (HAW.out _).mono ?_; rintro e w' ⟨rfl, hb⟩)
        go_ret
        exact ⟨rfl, over2 (over2 HB3.out HB.out) hb⟩
end Go.Proofs.Ytlnheknhdabhdaa
