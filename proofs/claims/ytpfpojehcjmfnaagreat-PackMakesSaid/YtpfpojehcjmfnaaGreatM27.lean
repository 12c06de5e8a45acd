/-
  The law of whole plans: PackMakes.
  Conditions: the slices read as wants; the numbers are of their kinds.
-/
import Derived.Test.YtpfpojehcjmfnaaGreatM12
import Derived.Test.YtpfpojehcjmfnaaGreatM24
import Derived.Test.YtpfpojehcjmfnaaGreatM26
import Derived.Test.YtpfpojehcjmfnaaGreatM18
import Derived.Test.YtpfpojehcjmfnaaGreatM23
import Derived.Test.YtpfpojehcjmfnaaGreatM15
import Derived.Test.YtpfpojehcjmfnaaGreatM20
import Derived.Test.YtpfpojehcjmfnaaGreatM10
import Derived.Test.YtpfpojehcjmfnaaGreatM21
import Derived.Test.YtpfpojehcjmfnaaGreatM22

/-
  A whole plan, of the document.
  Conditions: the slice reads as wants; the numbers are of their kinds; there is one.
-/
set_option linter.unusedVariables false
set_option linter.unusedSimpArgs false
namespace Go.Proofs.YtpfpojehcjmfnaaGreat
open Go.RowKit

set_option maxRecDepth 100000 in
set_option maxHeartbeats 8000000 in
theorem refFullP_any (f : Int) (m : Nat) (vw : Value) (ws : List Sp) (w : World) (hw : SpansAt w vw ws) (h : FullOk f m ws) :
    Calls Tryz.prog 16 #[.int .i64 f, .int .u32 m, vw] w (fun e w' => ∃ v', e = .returned (planA f m v') ∧ PlsAt w' v' (fullT f m ws) ∧ Below w.heap.size w w') := by
  have HFI := Lib.hid (fun W hv => refFit_any f m (.slice none 0 0) [] vw ws W (PlsIn.nil _ W) light_nil hv ⟨h.right, h.chk, anyB_nil ws⟩ (by have := h.lens; show 0 + ws.length ≤ 300; omega))
  have HSL := Lib.hid (fun v vo W hp hv => refSplitC_any f m v (fitT f m [] (sortT ws)).1 vo (fitT f m [] (sortT ws)).2 W hp h.light hv h.goes (by have := h.lens; omega))
  have HW := Lib.hid hw
  have HEQ : Hid ((chT f m (fitT f m [] (sortT ws)).1 (fitT f m [] (sortT ws)).2).1 = fullT f m ws) := Lib.hid rfl
  unfold planA at HFI HSL
  unfold RetFitR at HFI
  generalize (fitT f m [] (sortT ws)).1 = L1 at *
  generalize (fitT f m [] (sortT ws)).2 = W1 at *
  obtain ⟨wr, R, hwr, hR, hRl, hbr, hrox⟩ := box_any w #[.int .i64 0, .int .u32 0, .slice none 0 0] 26
  have HRB := Lib.hid hrox
  have HRL : Hid (w.heap.size ≤ R) := Lib.hid (by omega)
  have HBR := Lib.hid hbr
  have HFI1 := Lib.hid (HFI.out wr (HW.out.keep HBR.out))
  clear hw h hbr hrox HFI
  unfold planA
  go_enter Tryz.func16, Tryz.ntmps16
  go_wp2_with fail
  refine HFI1.out.mono ?_
  rintro e w2 ⟨v, vo, rfl, hpl, hvo, hb2⟩
  unfold planA
  have HB2 := Lib.hid (HBR.out.trans (hb2.mono HBR.out.size))
  have HR2 := Lib.hid (keep_block HRB.out hb2)
  have HPL := Lib.hid hpl
  have HVO := Lib.hid hvo
  obtain ⟨A, cA, rfl, _, _⟩ := hpl.form
  obtain ⟨n1, hn1⟩ : ∃ n1, L1.length = n1 := ⟨_, rfl⟩
  rw [hn1] at HPL ⊢
  obtain ⟨w3, P, hw3, hP, hPl, hb3, hbox⟩ := box_any w2 #[.int .i64 0, .int .u32 0, .slice none 0 0] 26
  have HPB := Lib.hid hbox
  obtain ⟨w4, hw4⟩ : ∃ w4, w3.setRow P #[.int .i64 f, .int .u32 m, .slice A n1 cA] = w4 := ⟨_, rfl⟩
  have hb4 : Below w2.heap.size w2 w4 := by rw [← hw4]; exact below_row hb3 (by omega) _
  have HB4 := Lib.hid (HB2.out.trans (hb4.mono HB2.out.size))
  have HP4 : Hid (w4.heap[P]? = some (.cells #[.int .i64 f, .int .u32 m, .slice A n1 cA] 26 (0, 0))) := Lib.hid (by rw [← hw4]; exact setRow_heap _ _ _ _ _ _ hbox)
  have HR4 := Lib.hid (keep_block HR2.out hb4)
  have HSL4 := Lib.hid (HSL.out _ vo w4 (HPL.out.keep hb4) (HVO.out.keep hb4))
  obtain ⟨p0, p1, p2⟩ := three_heads HP4.out
  clear hb2 hpl hvo hb3 hb4 hbox hn1 HSL hwr hR
  go_wp2_with (refine wpList_store_row rfl _ _ _ rfl P #[.int .i64 f, .int .u32 m, .slice A n1 cA] rfl rfl 26 _ HPB.out (Tryz.sizePn _ _ _) rfl (one3 _ _ _ _ _) ?_)
  refine HSL4.out.mono ?_
  rintro e w5 ⟨v5, rfl, hpl5, hb5⟩
  rw [HEQ.out] at hpl5
  have HB5 := Lib.hid (HB4.out.trans (hb5.mono HB4.out.size))
  have HR5 := Lib.hid (keep_block HR4.out hb5)
  obtain ⟨A5, c5, rfl, _, _⟩ := hpl5.form
  obtain ⟨n5, hn5⟩ : ∃ n5, (fullT f m ws).length = n5 := ⟨_, rfl⟩
  rw [hn5] at hpl5 ⊢
  have HEND : Hid (PlsAt (w5.setRow R #[.int .i64 f, .int .u32 m, .slice A5 n5 c5]) (.slice A5 n5 c5) (fullT f m ws) ∧ Below w.heap.size w (w5.setRow R #[.int .i64 f, .int .u32 m, .slice A5 n5 c5])) := Lib.hid ⟨(PlsIn.setRow (pls_not HR5.out hpl5) (.inl fun h => h.2 rfl)).any, below_row HB5.out HRL.out _⟩
  clear hb5 hpl5 hn5 p0 p1 p2 hw4 hw3 hP
  go_wp2_with (refine wpList_store_row rfl _ _ _ rfl R #[.int .i64 f, .int .u32 m, .slice A5 n5 c5] rfl rfl 26 _ HR5.out (Tryz.sizePn _ _ _) rfl (one3 _ _ _ _ _) ?_)
  refine bodyPost_ret (v := planA f m (.slice A5 n5 c5)) (results_cell_row rfl _ _ R _ _ _ _ rfl (setRow_heap _ _ _ _ _ _ HR5.out) Tryz.underlying26 rfl (Tryz.sizePn _ _ _)) rfl ?_
  exact ⟨_, rfl, HEND.out.1, HEND.out.2⟩
end Go.Proofs.YtpfpojehcjmfnaaGreat

/-
  Why there is no whole plan, of the document.
  Conditions: the slice reads as wants; the numbers are of their kinds.
-/
set_option linter.unusedVariables false
set_option linter.unusedSimpArgs false
namespace Go.Proofs.YtpfpojehcjmfnaaGreat
open Go.RowKit

def RetWhyP (f : Int) (m : Nat) (ws : List Sp) (w : World) (e : Ending) (w' : World) : Prop := ∃ E : Int, e = .returned (.int .i64 E) ∧ Why20 f m ws E ∧ Below w.heap.size w w'

set_option maxRecDepth 100000 in
set_option maxHeartbeats 8000000 in
theorem refWhyP_any (f : Int) (m : Nat) (vw : Value) (ws : List Sp) (w : World) (hw : SpansAt w vw ws) (hi : IntsS ws) (hm : m < 4294967296) :
    Calls Tryz.prog 9 #[.int .i64 f, .int .u32 m, vw] w (RetWhyP f m ws w) := by
  have HRI := Lib.hid (fun W => calls_iff (right_any f m (.slice none 0 0) [] W (PlsIn.nil _ W) light_nil hm))
  have HCK := Lib.hid (fun W h => refCheck_any f vw ws W h hi)
  have HFR := Lib.hid (fun (hr : Right f m []) W => refFree_any f m (.slice none 0 0) [] W (PlsIn.nil _ W) light_nil shares_nil hm (by have := hr.f2; omega) hr.f64)
  have HTO := Lib.hid (fun w h => refTotal_any vw ws w h hi)
  have HW := Lib.hid hw
  unfold planA at HRI HFR
  obtain ⟨w1, P, hw1, hP, hPl, hb1, hbox⟩ := box_any w #[.int .i64 0, .int .u32 0, .slice none 0 0] 26
  have HPB := Lib.hid hbox
  obtain ⟨w2, hw2⟩ : ∃ w2, w1.setRow P #[.int .i64 f, .int .u32 m, .slice none 0 0] = w2 := ⟨_, rfl⟩
  have hb2 : Below w.heap.size w w2 := by rw [← hw2]; exact below_row hb1 (by omega) _
  have HB2 := Lib.hid hb2
  have HP2 : Hid (w2.heap[P]? = some (.cells #[.int .i64 f, .int .u32 m, .slice none 0 0] 26 (0, 0))) := Lib.hid (by rw [← hw2]; exact setRow_heap _ _ _ _ _ _ hbox)
  obtain ⟨p0, p1, p2⟩ := three_heads HP2.out
  clear hw hi hm hb1 hb2 hbox
  by_cases hr : Right f m []
  · have HR1 := Lib.hid ((HRI.out w2).1 hr)
    have HR := Lib.hid hr
    clear hr
    go_enter Tryz.func9, Tryz.ntmps9
    go_wp2_with (refine wpList_store_row rfl _ _ _ rfl P #[.int .i64 f, .int .u32 m, .slice none 0 0] rfl rfl 26 _ HPB.out (Tryz.sizePn _ _ _) rfl (one3 _ _ _ _ _) ?_)
    refine HR1.out.mono ?_
    rintro e w3 ⟨rfl, hb3⟩
    have HB3 := Lib.hid (HB2.out.trans (hb3.mono HB2.out.size))
    have HP3 := Lib.hid (keep_block HP2.out hb3)
    clear hb3 p0 p1 p2 hw1 hw2 hP
    obtain ⟨p0, p1, p2⟩ := three_heads HP3.out
    go_wp2_with fail
    refine (HCK.out _ (HW.out.keep HB3.out)).mono ?_
    rintro e w4 ⟨rfl, hb4⟩
    have HB4 := Lib.hid (HB3.out.trans (hb4.mono HB3.out.size))
    have HP4 := Lib.hid (keep_block HP3.out hb4)
    obtain ⟨E, hE⟩ : ∃ E, chkT f ws = E := ⟨_, rfl⟩
    have HE := Lib.hid hE
    rw [hE]
    clear hb4 p0 p1 p2 hE
    by_cases he : E = 0
    · subst he
      have HC : Hid (chkT f ws = 0) := Lib.hid HE.out
      have HTO5 := Lib.hid (HTO.out _ (HW.out.keep HB4.out))
      rw [tot_chk HC.out] at HTO5
      have HTO6 : Hid (Calls Tryz.prog 18 #[vw] w4 (RetB (.tuple #[.int .i64 (sumS ws), .bool true]) w4)) := HTO5
      obtain ⟨t, ht⟩ : ∃ t, sumS ws = t := ⟨_, rfl⟩
      have HT := Lib.hid ht
      rw [ht] at HTO6
      clear ht HTO5
      go_wp2_with fail
      refine HTO6.out.mono ?_
      rintro e w5 ⟨rfl, hb5⟩
      have HB5 := Lib.hid (HB4.out.trans (hb5.mono HB4.out.size))
      have HP5 := Lib.hid (keep_block HP4.out hb5)
      clear hb5
      obtain ⟨p0, p1, p2⟩ := three_heads HP5.out
      have HFR5 := Lib.hid (HFR.out HR.out w5)
      rw [free_none HR.out] at HFR5
      obtain ⟨g, hg⟩ : ∃ g, f * (coresN m : Int) = g := ⟨_, rfl⟩
      have HGF := Lib.hid hg
      rw [hg] at HFR5
      clear hg
      go_wp2_with fail
      refine HFR5.out.mono ?_
      rintro e w6 ⟨rfl, hb6⟩
      have HB6 := Lib.hid (HB5.out.trans (hb6.mono HB5.out.size))
      clear hb6 p0 p1 p2
      by_cases hlt : g < t
      · have hd : decide (g < t) = true := decide_eq_true hlt
        have HW12 : Hid (Why20 f m ws 12) := Lib.hid (.inr (.inr (.inl ⟨HR.out, HC.out, by rw [HGF.out, HT.out]; exact hlt, rfl⟩)))
        go_wp2_with fail
        go_ret
        exact ⟨12, rfl, HW12.out, HB6.out⟩
      · have hd : decide (g < t) = false := decide_eq_false hlt
        have HWZ : Hid (Why20 f m ws 0) := Lib.hid (.inr (.inr (.inr ⟨HR.out, HC.out, by rw [HGF.out, HT.out]; omega, rfl⟩)))
        go_wp2_with fail
        go_ret
        exact ⟨0, rfl, HWZ.out, HB6.out⟩
    · have hb0 : (E != 0) = true := by simpa using he
      have HWE : Hid (Why20 f m ws E) := Lib.hid (.inr (.inl ⟨HR.out, by rw [HE.out]; exact he, HE.out.symm⟩))
      clear he
      go_wp2_with fail
      go_ret
      exact ⟨E, rfl, HWE.out, HB4.out⟩
  · have HR1 := Lib.hid ((HRI.out w2).2 hr)
    have HWE : Hid (Why20 f m ws 30) := Lib.hid (.inl ⟨hr, rfl⟩)
    clear hr
    go_enter Tryz.func9, Tryz.ntmps9
    go_wp2_with (refine wpList_store_row rfl _ _ _ rfl P #[.int .i64 f, .int .u32 m, .slice none 0 0] rfl rfl 26 _ HPB.out (Tryz.sizePn _ _ _) rfl (one3 _ _ _ _ _) ?_)
    refine HR1.out.mono ?_
    rintro e w3 ⟨rfl, hb3⟩
    have HB3 := Lib.hid (HB2.out.trans (hb3.mono HB2.out.size))
    clear hb3 p0 p1 p2 hw1 hw2 hP
    go_wp2_with fail
    go_ret
    exact ⟨30, rfl, HWE.out, HB3.out⟩
end Go.Proofs.YtpfpojehcjmfnaaGreat

/-
  The fewest cores, of the document.
  Conditions: the slice reads as wants that are right; the numbers are of their kinds.
-/
set_option linter.unusedVariables false
set_option linter.unusedSimpArgs false
namespace Go.Proofs.YtpfpojehcjmfnaaGreat
open Go.RowKit

set_option maxRecDepth 100000 in
set_option maxHeartbeats 8000000 in
theorem refLeastP_any (f : Int) (vw : Value) (ws : List Sp) (w : World) (hw : SpansAt w vw ws) (hi : IntsS ws) (hc : chkT f ws = 0) :
    Calls Tryz.prog 15 #[.int .i64 f, vw] w (RetB (.int .i64 (leastT f ws : Nat)) w) := by
  have HTO := Lib.hid (refTotal_any vw ws w hw hi)
  rw [tot_chk hc] at HTO
  have HTO6 : Hid (Calls Tryz.prog 18 #[vw] w (RetB (.tuple #[.int .i64 (sumS ws), .bool true]) w)) := HTO
  obtain ⟨hf1, hf2⟩ := (WOk.of_chk hc).1
  obtain ⟨t, ht⟩ : ∃ t, sumS ws = t := ⟨_, rfl⟩
  have HT := Lib.hid ht
  rw [ht] at HTO6
  clear ht HTO hw hi hc
  go_enter Tryz.func15, Tryz.ntmps15
  go_wp2_with fail
  refine HTO6.out.mono ?_
  rintro e w2 ⟨rfl, hb2⟩
  have HB2 := Lib.hid hb2
  clear hb2
  go_wp2_with fail
  go_loopg [7] 17 (fun gg s7 wr => ∃ i : Nat, 1 ≤ i ∧ i ≤ 17 ∧ gg = 18 - i ∧ s7 = .int .i64 i ∧ Hid (∀ j : Nat, 1 ≤ j → j < i → (j : Int) * f < t) ∧ w2 = wr)
  case atStart => exact ⟨1, Nat.le_refl _, by decide, rfl, rfl, Lib.hid (fun j h1 h2 => by omega), rfl⟩
  case round =>
    obtain ⟨i, hi1, hi17, hgg, rfl, HJ, rfl⟩ := hrel
    have HG := Lib.hid hgg
    by_cases hlt : i ≤ 16
    · have hltz : (i : Int) ≤ 16 := by omega
      have hi0 : (0 : Int) ≤ (i : Int) := by omega
      obtain ⟨hz0, hz1⟩ := mul_small hf1 hf2 hi17
      obtain ⟨z, hz⟩ : ∃ z, (i : Int) * f = z := ⟨_, rfl⟩
      rw [hz] at hz0 hz1
      have HZ := Lib.hid hz
      by_cases hle : t ≤ z
      · have HL : Hid (leastT f ws = i) := Lib.hid (least_some hi1 hlt (by rw [HT.out, HZ.out]; exact hle) (fun j h1 h2 => by rw [HT.out]; exact HJ.out j h1 h2))
        clear hgg
        go_wp2_with fail
        go_ret
        exact ⟨by rw [HL.out]; rfl, HB2.out⟩
      · have hled : decide (t ≤ z) = false := decide_eq_false hle
        have HJN : Hid (∀ j : Nat, 1 ≤ j → j < i + 1 → (j : Int) * f < t) := Lib.hid (fun j h1 h2 => by
          by_cases hj : j = i
          · rw [hj, HZ.out]; omega
          · exact HJ.out j h1 (by omega))
        clear hgg
        go_wp2_with fail
        go_roundg (18 - (i + 1))
        case measure => have := HG.out; omega
        case rel => exact ⟨i + 1, by omega, by omega, rfl, by go_num, HJN, rfl⟩
    · have hltz : ¬ (i : Int) ≤ 16 := by omega
      have HL : Hid (leastT f ws = 0) := Lib.hid (least_none (fun j h1 h2 => by rw [HT.out]; exact HJ.out j h1 (by omega)))
      clear hgg
      go_wp2_with fail
      go_ret
      exact ⟨by rw [HL.out]; rfl, HB2.out⟩
end Go.Proofs.YtpfpojehcjmfnaaGreat

/-
  The law of whole plans: PackMakes.
  Conditions: the slices read as wants; the numbers are of their kinds.
-/
set_option linter.unusedVariables false
set_option linter.unusedSimpArgs false
namespace Go.Proofs.YtpfpojehcjmfnaaGreat
open Go.RowKit

set_option maxRecDepth 100000 in
set_option maxHeartbeats 8000000 in
theorem makes_law (f : Int) (m : Nat) (vw : Value) (ps : List Sp) (w : World) (hm : m < 4294967296) (hv : ArgAt w vw ps) (hi : IntsS ps) :
    Calls Tryz.prog 3 #[.int .i64 f, .int .u32 m, vw] w (RetB (.bool true) w) := by
  have mixed : Tryz.prog.follows .mixedOrders = true := by kernel_rfl
  have HAW := Lib.hid (fun W => awake_any W)
  have harg := hv
  obtain ⟨B, d, rfl, hc1, hc2, hnil, _⟩ := hv
  have hs := harg.cut 80 (by decide)
  have hi' := hi.take 80
  have hlq : (ps.take 80).length = min ps.length 80 := by rw [List.length_take, Nat.min_comm]
  have hmn : min (ps.length : Int) 80 = ((min ps.length 80 : Nat) : Int) := by omega
  have hmle : min ps.length 80 ≤ ps.length := Nat.min_le_left _ _
  have hm60 : min ps.length 80 ≤ 80 := Nat.min_le_right _ _
  generalize ps.take 80 = qs at *
  generalize ps.length = n at *
  generalize min n 80 = q at *
  have hmc : (q : Int) ≤ (d : Int) := by omega
  have hm0 : (0 : Int) ≤ (q : Int) := by omega
  have HLQ := Lib.hid hlq
  have hl300 : qs.length ≤ 300 := by omega
  have HNIL := Lib.hid hnil
  have HI := Lib.hid hi'
  have HS : Hid (∀ W, Below w.heap.size w W → SpansAt W (.slice B q d) qs) := Lib.hid (fun W hk => hs.keep hk)
  have HFU := Lib.hid (full_any f m (.slice B q d) qs w (HS.out w (Below.refl _ w)) hi' hm hl300)
  have HWY := Lib.hid (fun W hk => refWhyP_any f m (.slice B q d) qs W (HS.out W hk) hi' hm)
  have HFS := Lib.hid (fun W hk => pkFits_any f m (.slice B q d) qs W (HS.out W hk) hi' hm hl300)
  have HLE := Lib.hid (fun W hk => pkLeast_any f (.slice B q d) qs W (HS.out W hk) hi')
  have HCK := Lib.hid (fun W hk => refCheck_any f (.slice B q d) qs W (HS.out W hk) hi')
  clear harg hi hs hi' hlq hl300 hnil hm
  go_enter Tryz.func3, Tryz.ntmps3
  go_wp2_with fail
  refine HFU.out.mono ?_
  rintro e w2 ⟨E, hwhy, hb2, hcase⟩
  have HK2 := Lib.hid hb2
  have HWH := Lib.hid hwhy
  rcases hcase with ⟨hE0, v3, rfl, hpl⟩ | ⟨hE0, rfl⟩
  · subst hE0
    have hok := HWH.out.zero
    have HC : Hid (chkT f qs = 0) := Lib.hid hok.chk
    have HRF := Lib.hid (fun W (hk : Below w.heap.size w W) => refFullP_any f m (.slice B q d) qs W (HS.out W hk) hok)
    obtain ⟨A3, d3, hv3, _, _⟩ := hpl.form
    obtain ⟨n3, hn3⟩ : ∃ n3, (fullT f m qs).length = n3 := ⟨_, rfl⟩
    rw [hn3] at hv3
    subst hv3
    obtain ⟨w3, Q, hw3, hQ, hQl, hbw3, hQb⟩ := box_any w2 #[.int .i64 0, .int .u32 0, .slice none 0 0] 26
    have HQB := Lib.hid hQb
    obtain ⟨w4, hw4⟩ : ∃ w4, w3.setRow Q #[.int .i64 f, .int .u32 m, .slice A3 n3 d3] = w4 := ⟨_, rfl⟩
    have hbw4 : Below w2.heap.size w2 w4 := by rw [← hw4]; exact below_row hbw3 (by omega) _
    have HKw4 := Lib.hid (HK2.out.trans (hbw4.mono HK2.out.size))
    have HQC : Hid (∀ W, Below w4.heap.size w4 W → W.cell? ⟨Q, 0, none⟩ = some (.int .i64 f) ∧ W.cell? ⟨Q, 1, none⟩ = some (.int .u32 m) ∧ W.cell? ⟨Q, 2, none⟩ = some (.slice A3 n3 d3)) := Lib.hid (by
      have hq : w4.heap[Q]? = some (.cells #[.int .i64 f, .int .u32 m, .slice A3 n3 d3] 26 (0, 0)) := by rw [← hw4]; exact setRow_heap _ _ _ _ _ _ hQb
      exact fun W hk => three_heads (keep_block hq hk))
    have HPQ : Hid (∀ W, Below w4.heap.size w4 W → PlsAt W (.slice A3 n3 d3) (fullT f m qs)) := Lib.hid (fun W hk => (hpl.keep hbw4).keep hk)
    clear hb2 hbw3 hbw4 hQb hpl hn3 hwhy hok
    unfold planA
    go_wp2_with (refine wpList_store_row rfl _ _ _ rfl Q #[.int .i64 f, .int .u32 m, .slice A3 n3 d3] rfl rfl 26 _ HQB.out (Tryz.sizePn _ _ _) rfl (one3 _ _ _ _ _) ?_)
    refine (HWY.out _ HKw4.out).mono ?_
    rintro e w5 ⟨E', rfl, hwhy', hb5⟩
    have hEE : 0 = E' := (hwhy'.unique HWH.out).symm
    subst hEE
    have HK5 := Lib.hid (HKw4.out.trans (hb5.mono HKw4.out.size))
    have HQ5 := Lib.hid hb5
    clear hb5 hwhy' hw3 hw4 hQ
    go_wp2_with fail
    refine (HFS.out _ HK5.out).mono ?_
    rintro e w6 ⟨E2, hwhy2, hb6, rfl⟩
    have hEE2 : 0 = E2 := (hwhy2.unique HWH.out).symm
    subst hEE2
    have HK6 := Lib.hid (HK5.out.trans (hb6.mono HK5.out.size))
    have HQ6 := Lib.hid (HQ5.out.trans (hb6.mono HQ5.out.size))
    clear hb6 hwhy2

    go_wp2_with fail
    refine (HLE.out _ HK6.out).mono ?_
    rintro e w7 ⟨rfl, hb7⟩
    have HK7 := Lib.hid (HK6.out.trans (hb7.mono HK6.out.size))
    have HQ7 := Lib.hid (HQ6.out.trans (hb7.mono HQ6.out.size))
    clear hb7
    go_wp2_with fail
    refine (HCK.out _ HK7.out).mono ?_
    rintro e w8 ⟨rfl, hb8⟩
    have HK8 := Lib.hid (HK7.out.trans (hb8.mono HK7.out.size))
    have HQ8 := Lib.hid (HQ7.out.trans (hb8.mono HQ7.out.size))
    clear hb8
    rw [HC.out]
    have HLT := Lib.hid (fun W (hk : Below w.heap.size w W) => refLeastP_any f (.slice B q d) qs W (HS.out W hk) HI.out HC.out)
    have HLN : Hid (leN f qs = leastT f qs) := Lib.hid (by unfold leN; rw [if_pos HC.out])
    rw [HLN.out]
    obtain ⟨k, hkk⟩ : ∃ k, leastT f qs = k := ⟨_, rfl⟩
    have HKK := Lib.hid hkk
    rw [hkk] at HLT ⊢
    clear hkk
    go_wp2_with fail
    refine (HLT.out _ HK8.out).mono ?_
    rintro e w9 ⟨rfl, hb9⟩
    have HK9 := Lib.hid (HK8.out.trans (hb9.mono HK8.out.size))
    have HQ9 := Lib.hid (HQ8.out.trans (hb9.mono HQ8.out.size))
    clear hb9
    by_cases hk0 : k = 0
    · subst hk0
      have he12 : leE f qs = 12 := by unfold leE; rw [if_pos HC.out, HKK.out, if_pos rfl]
      rw [he12]
      obtain ⟨q0, q1, q2⟩ := HQC.out _ HQ9.out
      have hkd := HQ9.out.drew
      have HQS : Hid (∀ W, Below w4.heap.size w4 W → W.cell? ⟨Q, 0, none⟩ = some (.int .i64 f) ∧ W.cell? ⟨Q, 1, none⟩ = some (.int .u32 m) ∧ W.cell? ⟨Q, 2, none⟩ = some (.slice A3 n3 d3)) := HQC
      have HS9 : Hid (Below w.heap.size w w9.drew) := Lib.hid HK9.out.drew
      clear q0 q1 q2
      go_wp2_with fail
      refine wp_region_held_drew (S := fun w' => w'.cell? ⟨Q, 0, none⟩ = some (.int .i64 f) ∧ w'.cell? ⟨Q, 1, none⟩ = some (.int .u32 m) ∧ w'.cell? ⟨Q, 2, none⟩ = some (.slice A3 n3 d3)) (by kernel_rfl) ?_ (fun hHeld => ?_)
      · exact HQS.out _ hkd
      refine wpAnyH_take (i := 0) (oi := ⟨some 97, _, _, _, _, _⟩) (v := ?_) rfl (by kernel_rfl) (by kernel_rfl) (by kernel_rfl) (fun _ _ _ h => h) (Or.inl ⟨by kernel_rfl, ?_⟩) (by assumption) ?_
      rotate_left
      · (intro w hSw; (try dsimp only at hSw); go_simp; try with_reducible rfl)
      (try simp only [Act.put, List.setIfInBounds_toArray, List.set_cons_zero, List.set_cons_succ])
      refine wpAnyH_take (i := 1) (oi := ⟨some 98, _, _, _, _, _⟩) (v := ?_) rfl (by kernel_rfl) (by kernel_rfl) (by kernel_rfl) (fun _ _ _ h => h) (Or.inl ⟨by kernel_rfl, ?_⟩) (by assumption) ?_
      rotate_left
      · (intro w hSw; (try dsimp only at hSw); go_simp; try with_reducible rfl)
      (try simp only [Act.put, List.setIfInBounds_toArray, List.set_cons_zero, List.set_cons_succ])
      refine wpAnyH_take (i := 2) (oi := ⟨some 99, _, _, _, _, _⟩) (v := ?_) rfl (by kernel_rfl) (by kernel_rfl) (by kernel_rfl) (fun _ _ _ h => h) (Or.inl ⟨by kernel_rfl, ?_⟩) (by assumption) ?_
      rotate_left
      · (intro w hSw; (try dsimp only at hSw); go_simp; try with_reducible rfl)
      (try simp only [Act.put, List.setIfInBounds_toArray, List.set_cons_zero, List.set_cons_succ])
      refine wpAnyH_take (i := 3) (oi := ⟨some 100, _, _, _, _, _⟩) (v := ?_) rfl (by kernel_rfl) (by kernel_rfl) (by kernel_rfl) (fun _ _ _ h => h) (Or.inl ⟨by kernel_rfl, ?_⟩) (by assumption) ?_
      rotate_left
      · (intro w hSw; (try dsimp only at hSw); go_simp; try with_reducible rfl)
      (try simp only [Act.put, List.setIfInBounds_toArray, List.set_cons_zero, List.set_cons_succ])
      refine wpAnyH_ready (rs := [4]) (by kernel_rfl) (by simp) ?_
      refine AllReadyH.cons (o := ⟨some 101, _, _, _, _, _⟩) rfl (fun K hK => ?_) AllReadyH.nil
      rw [if_pos (by kernel_rfl)]
      go_simp
      go_at_call 16; refine (HRF.out _ HS9.out).mono ?_; rintro e wq ⟨v5, rfl, hp5, hb5⟩
      obtain ⟨A5, d5, hv5, _, _⟩ := hp5.form
      obtain ⟨n5, hn5⟩ : ∃ n5, (fullT f m qs).length = n5 := ⟨_, rfl⟩
      rw [hn5] at hv5
      subst hv5
      unfold planA
      have hkq := hkd.trans (hb5.mono hkd.size)
      have HSE : Hid (∀ W, Below wq.heap.size wq W → Calls Tryz.prog 13 #[.agg #[.int .i64 f, .int .u32 m, .slice A3 n3 d3], .agg #[.int .i64 f, .int .u32 m, .slice A5 n5 d5]] W (RetB (.bool true) W)) := Lib.hid (fun W hk => by
        have h1 := refSame_any f m (.slice A3 n3 d3) (fullT f m qs) f m (.slice A5 n5 d5) (fullT f m qs) W (HPQ.out W (hkq.trans (hk.mono hkq.size))) (hp5.keep hk)
        rw [show sameB f m (fullT f m qs) f m (fullT f m qs) = true from decide_eq_true ⟨rfl, rfl, rfl⟩] at h1
        unfold planA at h1
        exact h1)
      refine hK.out _ _ ?_ (fun hHeld => ?_)
      · exact HQS.out _ hkq
      clear hK K
      (try simp only [Act.put, List.setIfInBounds_toArray, List.set_cons_zero, List.set_cons_succ])
      refine wpAnyH_ready (rs := [5]) (by kernel_rfl) (by simp) ?_
      refine AllReadyH.cons (o := ⟨some 102, _, _, _, _, _⟩) rfl (fun K hK => ?_) AllReadyH.nil
      rw [if_pos (by kernel_rfl)]
      go_simp
      go_at_call 13; refine (HSE.out _ (Below.refl _ _)).mono ?_; rintro e wy ⟨rfl, hby⟩
      have hky := hkq.trans (hby.mono hkq.size)
      refine hK.out _ _ ?_ (fun hHeld => ?_)
      · exact HQS.out _ hky
      clear hK K
      (try simp only [Act.put, List.setIfInBounds_toArray, List.set_cons_zero, List.set_cons_succ])
      refine wpAnyH_take (i := 6) (oi := ⟨some 103, _, _, _, _, _⟩) (v := ?_) rfl (by kernel_rfl) (by kernel_rfl) (by kernel_rfl) (fun _ _ _ h => h) (Or.inl ⟨by kernel_rfl, ?_⟩) (by assumption) ?_
      rotate_left
      · (intro w hSw; (try dsimp only at hSw); go_simp; try with_reducible rfl)
      (try simp only [Act.put, List.setIfInBounds_toArray, List.set_cons_zero, List.set_cons_succ])
      refine wpAnyH_ready (rs := [7]) (by kernel_rfl) (by simp) ?_
      refine AllReadyH.cons (o := ⟨some 104, _, _, _, _, _⟩) rfl (fun K hK => ?_) AllReadyH.nil
      rw [if_pos (by kernel_rfl)]
      go_simp
      go_at_call 14; refine (HAW.out _).mono ?_; rintro e wx ⟨rfl, hbx⟩
      have hkx := hky.trans (hbx.mono hky.size)
      refine hK.out _ _ ?_ (fun hHeld => ?_)
      · exact HQS.out _ hkx
      clear hK K
      (try simp only [Act.put, List.setIfInBounds_toArray, List.set_cons_zero, List.set_cons_succ])
      refine wpAnyH_take (i := 8) (oi := ⟨some 105, _, _, _, _, _⟩) (v := ?_) rfl (by kernel_rfl) (by kernel_rfl) (by kernel_rfl) (fun _ _ _ h => h) (Or.inl ⟨by kernel_rfl, ?_⟩) (by assumption) ?_
      rotate_left
      · (intro w hSw; (try dsimp only at hSw); go_simp; try with_reducible rfl)
      (try simp only [Act.put, List.setIfInBounds_toArray, List.set_cons_zero, List.set_cons_succ])
      refine wpAnyH_take (i := 9) (oi := ⟨some 6, _, _, _, _, _⟩) (v := ?_) rfl (by kernel_rfl) (by kernel_rfl) (by kernel_rfl) (fun _ _ _ h => h) (Or.inl ⟨by kernel_rfl, ?_⟩) (by assumption) ?_
      rotate_left
      · (intro w hSw; (try dsimp only at hSw); go_simp; try with_reducible rfl)
      (try simp only [Act.put, List.setIfInBounds_toArray, List.set_cons_zero, List.set_cons_succ])
      refine wpAnyH_done (by kernel_rfl) ?_ _
      have HKX := Lib.hid (HKw4.out.trans (hkx.mono HKw4.out.size))
      clear hHeld hkx hky hkq hbx hby hb5
      go_wp2_with fail
      go_ret
      exact ⟨rfl, HKX.out⟩
    · have hkp : decide ((0 : Int) < (k : Int)) = true := decide_eq_true (by omega)
      have hkn : 0 < k := by omega
      have hkz : ((k : Int) == 0) = false := by simpa using hk0
      have he0 : leE f qs = 0 := by unfold leE; rw [if_pos HC.out, HKK.out, if_neg hk0]
      rw [he0]
      clear hk0
      obtain ⟨q0, q1, q2⟩ := HQC.out _ HQ9.out
      have hkd := HQ9.out.drew
      have HQS : Hid (∀ W, Below w4.heap.size w4 W → W.cell? ⟨Q, 0, none⟩ = some (.int .i64 f) ∧ W.cell? ⟨Q, 1, none⟩ = some (.int .u32 m) ∧ W.cell? ⟨Q, 2, none⟩ = some (.slice A3 n3 d3)) := HQC
      have HS9 : Hid (Below w.heap.size w w9.drew) := Lib.hid HK9.out.drew
      clear q0 q1 q2
      go_wp2_with fail
      refine wp_region_held_drew (S := fun w' => w'.cell? ⟨Q, 0, none⟩ = some (.int .i64 f) ∧ w'.cell? ⟨Q, 1, none⟩ = some (.int .u32 m) ∧ w'.cell? ⟨Q, 2, none⟩ = some (.slice A3 n3 d3)) (by kernel_rfl) ?_ (fun hHeld => ?_)
      · exact HQS.out _ hkd
      refine wpAnyH_take (i := 0) (oi := ⟨some 97, _, _, _, _, _⟩) (v := ?_) rfl (by kernel_rfl) (by kernel_rfl) (by kernel_rfl) (fun _ _ _ h => h) (Or.inl ⟨by kernel_rfl, ?_⟩) (by assumption) ?_
      rotate_left
      · (intro w hSw; (try dsimp only at hSw); go_simp; try with_reducible rfl)
      (try simp only [Act.put, List.setIfInBounds_toArray, List.set_cons_zero, List.set_cons_succ])
      refine wpAnyH_take (i := 1) (oi := ⟨some 98, _, _, _, _, _⟩) (v := ?_) rfl (by kernel_rfl) (by kernel_rfl) (by kernel_rfl) (fun _ _ _ h => h) (Or.inl ⟨by kernel_rfl, ?_⟩) (by assumption) ?_
      rotate_left
      · (intro w hSw; (try dsimp only at hSw); go_simp; try with_reducible rfl)
      (try simp only [Act.put, List.setIfInBounds_toArray, List.set_cons_zero, List.set_cons_succ])
      refine wpAnyH_take (i := 2) (oi := ⟨some 99, _, _, _, _, _⟩) (v := ?_) rfl (by kernel_rfl) (by kernel_rfl) (by kernel_rfl) (fun _ _ _ h => h) (Or.inl ⟨by kernel_rfl, ?_⟩) (by assumption) ?_
      rotate_left
      · (intro w hSw; (try dsimp only at hSw); go_simp; try with_reducible rfl)
      (try simp only [Act.put, List.setIfInBounds_toArray, List.set_cons_zero, List.set_cons_succ])
      refine wpAnyH_take (i := 3) (oi := ⟨some 100, _, _, _, _, _⟩) (v := ?_) rfl (by kernel_rfl) (by kernel_rfl) (by kernel_rfl) (fun _ _ _ h => h) (Or.inl ⟨by kernel_rfl, ?_⟩) (by assumption) ?_
      rotate_left
      · (intro w hSw; (try dsimp only at hSw); go_simp; try with_reducible rfl)
      (try simp only [Act.put, List.setIfInBounds_toArray, List.set_cons_zero, List.set_cons_succ])
      refine wpAnyH_ready (rs := [4]) (by kernel_rfl) (by simp) ?_
      refine AllReadyH.cons (o := ⟨some 101, _, _, _, _, _⟩) rfl (fun K hK => ?_) AllReadyH.nil
      rw [if_pos (by kernel_rfl)]
      go_simp
      go_at_call 16; refine (HRF.out _ HS9.out).mono ?_; rintro e wq ⟨v5, rfl, hp5, hb5⟩
      obtain ⟨A5, d5, hv5, _, _⟩ := hp5.form
      obtain ⟨n5, hn5⟩ : ∃ n5, (fullT f m qs).length = n5 := ⟨_, rfl⟩
      rw [hn5] at hv5
      subst hv5
      unfold planA
      have hkq := hkd.trans (hb5.mono hkd.size)
      have HSE : Hid (∀ W, Below wq.heap.size wq W → Calls Tryz.prog 13 #[.agg #[.int .i64 f, .int .u32 m, .slice A3 n3 d3], .agg #[.int .i64 f, .int .u32 m, .slice A5 n5 d5]] W (RetB (.bool true) W)) := Lib.hid (fun W hk => by
        have h1 := refSame_any f m (.slice A3 n3 d3) (fullT f m qs) f m (.slice A5 n5 d5) (fullT f m qs) W (HPQ.out W (hkq.trans (hk.mono hkq.size))) (hp5.keep hk)
        rw [show sameB f m (fullT f m qs) f m (fullT f m qs) = true from decide_eq_true ⟨rfl, rfl, rfl⟩] at h1
        unfold planA at h1
        exact h1)
      refine hK.out _ _ ?_ (fun hHeld => ?_)
      · exact HQS.out _ hkq
      clear hK K
      (try simp only [Act.put, List.setIfInBounds_toArray, List.set_cons_zero, List.set_cons_succ])
      refine wpAnyH_ready (rs := [5]) (by kernel_rfl) (by simp) ?_
      refine AllReadyH.cons (o := ⟨some 102, _, _, _, _, _⟩) rfl (fun K hK => ?_) AllReadyH.nil
      rw [if_pos (by kernel_rfl)]
      go_simp
      go_at_call 13; refine (HSE.out _ (Below.refl _ _)).mono ?_; rintro e wy ⟨rfl, hby⟩
      have hky := hkq.trans (hby.mono hkq.size)
      refine hK.out _ _ ?_ (fun hHeld => ?_)
      · exact HQS.out _ hky
      clear hK K
      (try simp only [Act.put, List.setIfInBounds_toArray, List.set_cons_zero, List.set_cons_succ])
      refine wpAnyH_take (i := 6) (oi := ⟨some 103, _, _, _, _, _⟩) (v := ?_) rfl (by kernel_rfl) (by kernel_rfl) (by kernel_rfl) (fun _ _ _ h => h) (Or.inl ⟨by kernel_rfl, ?_⟩) (by assumption) ?_
      rotate_left
      · (intro w hSw; (try dsimp only at hSw); go_simp; try with_reducible rfl)
      (try simp only [Act.put, List.setIfInBounds_toArray, List.set_cons_zero, List.set_cons_succ])
      refine wpAnyH_ready (rs := [7]) (by kernel_rfl) (by simp) ?_
      refine AllReadyH.cons (o := ⟨some 104, _, _, _, _, _⟩) rfl (fun K hK => ?_) AllReadyH.nil
      rw [if_pos (by kernel_rfl)]
      go_simp
      go_at_call 14; refine (HAW.out _).mono ?_; rintro e wx ⟨rfl, hbx⟩
      have hkx := hky.trans (hbx.mono hky.size)
      refine hK.out _ _ ?_ (fun hHeld => ?_)
      · exact HQS.out _ hkx
      clear hK K
      (try simp only [Act.put, List.setIfInBounds_toArray, List.set_cons_zero, List.set_cons_succ])
      refine wpAnyH_take (i := 8) (oi := ⟨some 105, _, _, _, _, _⟩) (v := ?_) rfl (by kernel_rfl) (by kernel_rfl) (by kernel_rfl) (fun _ _ _ h => h) (Or.inl ⟨by kernel_rfl, ?_⟩) (by assumption) ?_
      rotate_left
      · (intro w hSw; (try dsimp only at hSw); go_simp; try with_reducible rfl)
      (try simp only [Act.put, List.setIfInBounds_toArray, List.set_cons_zero, List.set_cons_succ])
      refine wpAnyH_take (i := 9) (oi := ⟨some 6, _, _, _, _, _⟩) (v := ?_) rfl (by kernel_rfl) (by kernel_rfl) (by kernel_rfl) (fun _ _ _ h => h) (Or.inl ⟨by kernel_rfl, ?_⟩) (by assumption) ?_
      rotate_left
      · (intro w hSw; (try dsimp only at hSw); go_simp; try with_reducible rfl)
      (try simp only [Act.put, List.setIfInBounds_toArray, List.set_cons_zero, List.set_cons_succ])
      refine wpAnyH_done (by kernel_rfl) ?_ _
      have HKX := Lib.hid (HKw4.out.trans (hkx.mono HKw4.out.size))
      clear hHeld hkx hky hkq hbx hby hb5
      go_wp2_with fail
      go_ret
      exact ⟨rfl, HKX.out⟩
  · have hb0 : (E != 0) = true := by simpa using hE0
    have hbe : (E == 0) = false := by simpa using hE0
    have hbd : decide (E = 0) = false := decide_eq_false hE0
    obtain ⟨w3, Q, hw3, hQ, hQl, hbw3, hQb⟩ := box_any w2 #[.int .i64 0, .int .u32 0, .slice none 0 0] 26
    have HQB := Lib.hid hQb
    obtain ⟨w4, hw4⟩ : ∃ w4, w3.setRow Q #[.int .i64 0, .int .u32 0, .slice none 0 0] = w4 := ⟨_, rfl⟩
    have hbw4 : Below w2.heap.size w2 w4 := by rw [← hw4]; exact below_row hbw3 (by omega) _
    have HKw4 := Lib.hid (HK2.out.trans (hbw4.mono HK2.out.size))
    have HQC : Hid (∀ W, Below w4.heap.size w4 W → W.cell? ⟨Q, 0, none⟩ = some (.int .i64 0) ∧ W.cell? ⟨Q, 1, none⟩ = some (.int .u32 0) ∧ W.cell? ⟨Q, 2, none⟩ = some (.slice none 0 0)) := Lib.hid (by
      have hq : w4.heap[Q]? = some (.cells #[.int .i64 0, .int .u32 0, .slice none 0 0] 26 (0, 0)) := by rw [← hw4]; exact setRow_heap _ _ _ _ _ _ hQb
      exact fun W hk => three_heads (keep_block hq hk))
    have HSM := Lib.hid (fun W => refSame_any 0 0 (.slice none 0 0) [] 0 0 (.slice none 0 0) [] W (PlsIn.nil _ _) (PlsIn.nil _ _))
    rw [show sameB 0 0 [] 0 0 [] = true from decide_eq_true ⟨rfl, rfl, rfl⟩] at HSM
    unfold planA at HSM
    clear hb2 hbw3 hbw4 hQb hwhy hE0
    unfold planA
    go_wp2_with (refine wpList_store_row rfl _ _ _ rfl Q #[.int .i64 0, .int .u32 0, .slice none 0 0] rfl rfl 26 _ HQB.out (Tryz.sizePn _ _ _) rfl (one3 _ _ _ _ _) ?_)
    refine (HWY.out _ HKw4.out).mono ?_
    rintro e w5 ⟨E', rfl, hwhy', hb5⟩
    have hEE : E = E' := (hwhy'.unique HWH.out).symm
    subst hEE
    have HK5 := Lib.hid (HKw4.out.trans (hb5.mono HKw4.out.size))
    have HQ5 := Lib.hid hb5
    clear hb5 hwhy' hw3 hw4 hQ
    go_wp2_with fail
    refine (HFS.out _ HK5.out).mono ?_
    rintro e w6 ⟨E2, hwhy2, hb6, rfl⟩
    have hEE2 : E = E2 := (hwhy2.unique HWH.out).symm
    subst hEE2
    have HK6 := Lib.hid (HK5.out.trans (hb6.mono HK5.out.size))
    have HQ6 := Lib.hid (HQ5.out.trans (hb6.mono HQ5.out.size))
    clear hb6 hwhy2
    rw [hbd]
    go_wp2_with fail
    refine (HLE.out _ HK6.out).mono ?_
    rintro e w7 ⟨rfl, hb7⟩
    have HK7 := Lib.hid (HK6.out.trans (hb7.mono HK6.out.size))
    have HQ7 := Lib.hid (HQ6.out.trans (hb7.mono HQ6.out.size))
    clear hb7
    go_wp2_with fail
    refine (HCK.out _ HK7.out).mono ?_
    rintro e w8 ⟨rfl, hb8⟩
    have HK8 := Lib.hid (HK7.out.trans (hb8.mono HK7.out.size))
    have HQ8 := Lib.hid (HQ7.out.trans (hb8.mono HQ7.out.size))
    clear hb8
    obtain ⟨X, hX⟩ : ∃ X, chkT f qs = X := ⟨_, rfl⟩
    have HX := Lib.hid hX
    rw [hX]
    clear hX
    by_cases hx : X = 0
    · subst hx
      have HC : Hid (chkT f qs = 0) := Lib.hid HX.out
      have HLT := Lib.hid (fun W (hk : Below w.heap.size w W) => refLeastP_any f (.slice B q d) qs W (HS.out W hk) HI.out HC.out)
      have HLN : Hid (leN f qs = leastT f qs) := Lib.hid (by unfold leN; rw [if_pos HC.out])
      rw [HLN.out]
      obtain ⟨k, hkk⟩ : ∃ k, leastT f qs = k := ⟨_, rfl⟩
      have HKK := Lib.hid hkk
      rw [hkk] at HLT ⊢
      clear hkk
      go_wp2_with fail
      refine (HLT.out _ HK8.out).mono ?_
      rintro e w9 ⟨rfl, hb9⟩
      have HK9 := Lib.hid (HK8.out.trans (hb9.mono HK8.out.size))
      have HQ9 := Lib.hid (HQ8.out.trans (hb9.mono HQ8.out.size))
      clear hb9
      by_cases hk0 : k = 0
      · subst hk0
        have he12 : leE f qs = 12 := by unfold leE; rw [if_pos HC.out, HKK.out, if_pos rfl]
        rw [he12]
        obtain ⟨q0, q1, q2⟩ := HQC.out _ HQ9.out
        go_wp2_with fail
        refine (HSM.out _).mono ?_
        rintro e w10 ⟨rfl, hb10⟩
        have HK10 := Lib.hid (HK9.out.trans (hb10.mono HK9.out.size))
        clear hb10 q0 q1 q2
        go_wp2_with fail
        refine (HAW.out _).mono ?_
        rintro e wz ⟨rfl, hbz⟩
        have HKZ := Lib.hid (HK10.out.trans (hbz.mono HK10.out.size))
        clear hbz
        go_wp2_with fail
        go_ret
        exact ⟨rfl, HKZ.out⟩
      · have hkp : decide ((0 : Int) < (k : Int)) = true := decide_eq_true (by omega)
        have hkn : 0 < k := by omega
        have hkz : ((k : Int) == 0) = false := by simpa using hk0
        have he0 : leE f qs = 0 := by unfold leE; rw [if_pos HC.out, HKK.out, if_neg hk0]
        rw [he0]
        clear hk0
        obtain ⟨q0, q1, q2⟩ := HQC.out _ HQ9.out
        go_wp2_with fail
        refine (HSM.out _).mono ?_
        rintro e w10 ⟨rfl, hb10⟩
        have HK10 := Lib.hid (HK9.out.trans (hb10.mono HK9.out.size))
        clear hb10 q0 q1 q2
        go_wp2_with fail
        refine (HAW.out _).mono ?_
        rintro e wz ⟨rfl, hbz⟩
        have HKZ := Lib.hid (HK10.out.trans (hbz.mono HK10.out.size))
        clear hbz
        go_wp2_with fail
        go_ret
        exact ⟨rfl, HKZ.out⟩
    · have hbx : (X != 0) = true := by simpa using hx
      have hn0 : leN f qs = 0 := by unfold leN; rw [HX.out, if_neg hx]
      have he0 : leE f qs = X := by unfold leE; rw [HX.out, if_neg hx]
      rw [hn0, he0]
      obtain ⟨q0, q1, q2⟩ := HQC.out _ HQ8.out
      clear hx hn0 he0
      go_wp2_with fail
      refine (HSM.out _).mono ?_
      rintro e w10 ⟨rfl, hb10⟩
      have HK10 := Lib.hid (HK8.out.trans (hb10.mono HK8.out.size))
      clear hb10 q0 q1 q2
      go_wp2_with fail
      refine (HAW.out _).mono ?_
      rintro e wz ⟨rfl, hbz⟩
      have HKZ := Lib.hid (HK10.out.trans (hbz.mono HK10.out.size))
      clear hbz
      go_wp2_with fail
      go_ret
      exact ⟨rfl, HKZ.out⟩
end Go.Proofs.YtpfpojehcjmfnaaGreat
