/-
  Which plans the program finds right: the same as the document.
  Conditions: none.
-/
import Derived.Test.YtpfpojehcjmfnaaM07
import Derived.Test.YtpfpojehcjmfnaaM08
import Derived.Test.YtpfpojehcjmfnaaM05
import Derived.Test.YtpfpojehcjmfnaaM03

/-
  rooms, Windows, Room and Free of the program.
  Conditions: the slice reads as places; the numbers are small.
-/
set_option linter.unusedVariables false
namespace Go.Proofs.Ytpfpojehcjmfnaa
open Go.RowKit Go.Sort

/-- The rooms by the windows alone, the first k of them. -/
def leftA (f : Int) (m : Nat) (q : List Pc) (k i : Nat) : Int := if i < k ∧ m.testBit i = true then f - (cnt (winF m q i) : Int) else 0
/-- The rooms with the first whole ones. -/
def leftB (f : Int) (m : Nat) (q : List Pc) (l : List Pl) (i : Nat) : Int := if m.testBit i = true then f - (cnt (winF m q i) : Int) - sumS (wholesT l (i : Int)) else 0
theorem leftA_zero (f : Int) (m : Nat) (q : List Pc) : arrI (leftA f m q 0) = arrI fun _ => 0 := arrI_congr fun i _ => if_neg (by omega)
theorem leftA_yes {f : Int} {m : Nat} {q : List Pc} {k : Nat} (h : m.testBit k = true) : (arrI fun i => if i = k then f - (cnt (winF m q k) : Int) else leftA f m q k i) = arrI (leftA f m q (k + 1)) := arrI_congr fun i _ => by
  unfold leftA
  by_cases e : i = k
  · subst e
    rw [if_pos rfl, if_pos ⟨by omega, h⟩]
  · rw [if_neg e]
    by_cases h1 : i < k ∧ m.testBit i = true
    · rw [if_pos h1, if_pos ⟨by omega, h1.2⟩]
    · rw [if_neg h1, if_neg (fun h2 => h1 ⟨by omega, h2.2⟩)]
theorem leftA_no {f : Int} {m : Nat} {q : List Pc} {k : Nat} (h : m.testBit k = false) : arrI (leftA f m q k) = arrI (leftA f m q (k + 1)) := arrI_congr fun i _ => by
  unfold leftA
  by_cases h1 : i < k ∧ m.testBit i = true
  · rw [if_pos h1, if_pos ⟨by omega, h1.2⟩]
  · rw [if_neg h1, if_neg (fun h2 => h1 ⟨by
      have : i ≠ k := by rintro rfl; rw [h] at h2; cases h2.2
      omega, h2.2⟩)]
theorem leftB_zero (f : Int) (m : Nat) (q : List Pc) : arrI (leftA f m q 16) = arrI (leftB f m q []) := arrI_congr fun i hi => by
  unfold leftA leftB
  by_cases h : m.testBit i = true
  · rw [if_pos ⟨hi, h⟩, if_pos h]
    show _ = _ - 0
    omega
  · rw [if_neg (fun h2 => h h2.2), if_neg h]
theorem leftB_no {f : Int} {m : Nat} {q : List Pc} {l : List Pl} {k : Nat} {x : Pl} (hx : l[k]? = some x) (h : ∀ i : Nat, i < 16 → m.testBit i = true → wholeB (i : Int) x = false) : arrI (leftB f m q (l.take k)) = arrI (leftB f m q (l.take (k + 1))) := arrI_congr fun i hi => by
  unfold leftB
  split
  · rename_i hb
    rw [wholes_no hx (h i hi hb)]
  · rfl
theorem leftB_yes {f : Int} {m : Nat} {q : List Pc} {l : List Pl} {k C : Nat} {x : Pl} (hx : l[k]? = some x) (hC : x.c = (C : Int)) (hz : x.ps.length = 0) (hb : m.testBit C = true) :
    (arrI fun i => if i = C then leftB f m q (l.take k) C - x.s else leftB f m q (l.take k) i) = arrI (leftB f m q (l.take (k + 1))) := arrI_congr fun i hi => by
  unfold leftB
  by_cases e : i = C
  · subst e
    rw [if_pos rfl, if_pos hb, if_pos hb, wholes_yes hx (by unfold wholeB; rw [decide_eq_true hz, decide_eq_true hC]; rfl), sumS_append]
    simp only [sumS]
    omega
  · rw [if_neg e]
    split
    · rw [wholes_no hx (by unfold wholeB; rw [decide_eq_false (show ¬ x.c = (i : Int) by omega), Bool.and_false])]
    · rfl
theorem leftB_room (f : Int) (m : Nat) (l : List Pl) : arrI (leftB f m (pcsOf l) l) = arrI fun i => roomN f m l (i : Int) := arrI_congr fun i hi => by
  unfold leftB roomN loadN
  rw [hasC_nat hi]
  by_cases h : m.testBit i = true
  · rw [if_pos h, if_pos h]
    unfold winF
    rw [if_pos h]
    omega
  · rw [if_neg h, if_neg h]
theorem leftB_bound {f : Int} {m : Nat} {q : List Pc} {l : List Pl} (hL : LightL l) (hS : Shares l) (hf : 0 ≤ f) (hf2 : f ≤ 64) (i : Nat) : -20000 ≤ leftB f m q l i ∧ leftB f m q l i ≤ 64 := by
  have h1 := sumS_bound (wholesT l (i : Int)) (shares_wholes hS i)
  have h2 := wholes_le l (i : Int)
  have h3 := cnt_le (winF m q i)
  have h4 := hL.len
  unfold leftB
  split <;> omega
theorem Shares.take {l : List Pl} (h : Shares l) (k : Nat) : Shares (l.take k) := fun x hx => h x (List.mem_of_mem_take hx)

set_option maxRecDepth 100000 in
set_option maxHeartbeats 4000000 in
theorem rooms_any (f : Int) (m : Nat) (v : Value) (l : List Pl) (w : World) (h : PlsAt w v l) (hL : LightL l) (hS : Shares l) (hm : m < 4294967296) (hf : 0 ≤ f) (hf2 : f ≤ 64) :
    Calls Try.prog 56 #[planA f m v] w (RetB (.agg (arrI fun i => roomN f m l (i : Int))) w) := by
  have hl : l.length ≤ 1000 := by have := hL.len; omega
  have HWN := Lib.hid (fun v w h => windows_any f m v l w h hl hL.ok hm)
  have HHC := Lib.hid (fun v c W => hasCore_any f m v c W hm)
  have HIW := Lib.hid (fun A n d x w => isWhole_any Any A n d x w)
  have HBD := Lib.hid (fun k i => leftB_bound (f := f) (m := m) (q := pcsOf l) (hL.take k) (hS.take k) hf hf2 i)
  have HRM := Lib.hid (leftB_room f m l)
  have HSH := Lib.hid hS
  unfold planA at HWN HHC
  unfold plA at HIW
  clear hL hS hm
  obtain ⟨A, cA, rfl, hlc, hcm⟩ := h.form
  have HL := Lib.hid h
  obtain ⟨w1, P, hw1, hP, hPl, hb1, hbox⟩ := box_any w #[.int .i64 f, .int .u32 m, .slice A l.length cA] 28
  obtain ⟨n, hn⟩ : ∃ n, l.length = n := ⟨_, rfl⟩
  rw [hn] at HL hlc hl hw1 hbox ⊢
  have HN := Lib.hid hn
  have HB1 := Lib.hid hb1
  have HBOX := Lib.hid hbox
  obtain ⟨r0, r1, r2⟩ := three_heads hbox
  have hb1s := Lib.hid hb1.size
  clear h hn hb1 hbox
  unfold planA
  obtain ⟨wa, R2, hwa, hNa, hNal, hba, haa⟩ := box_any w1 (arrI fun _ => 0) 93
  obtain ⟨wb, R3, hwb, hNb, hNbl, hbb, hab⟩ := box_any wa (arrI fun _ => 0) 93
  rw [arrI_zero] at hwa hwb
  have HBB := Lib.hid (HB1.out.trans ((hba.mono HB1.out.size).trans (hbb.mono (Nat.le_trans HB1.out.size hba.size))))
  have HXB := Lib.hid (keep_block (keep_block HBOX.out hba) hbb)
  have HAA := Lib.hid (keep_block haa hbb)
  have HAB := Lib.hid hab
  obtain ⟨p0, p1, p2⟩ := three_heads HXB.out
  have HO1 := Lib.hid (show w.heap.size ≤ P ∧ P < R2 ∧ R2 < R3 by omega)
  clear hba haa hbb hab
  go_enter Try.func56, Try.ntmps56
  go_wp2_with fail
  refine (HWN.out _ _ (HL.out.keep HBB.out)).mono ?_
  rintro e wc ⟨ap, rfl, _, hbc⟩
  obtain ⟨wd, R4, hwd, hNd, hNdl, hbd, had⟩ := box_any wc (arrU fun _ => 0) 108
  rw [arrU_zero] at hwd
  have HAD := Lib.hid had
  have HBD2 := Lib.hid (hbc.trans (hbd.mono hbc.size))
  have hR4 := Lib.hid (show wb.heap.size ≤ R4 by have := hbc.size; omega)
  have HO2 := Lib.hid (show R3 < R4 by have := heap_lt HAB.out; have := hbc.size; omega)
  generalize hq : pcsOf l = q at *
  clear hbc hbd had p0 p1 p2 r0 r1 r2 hw1 hP hwa hNa hwb hNb hq
  go_wp2_with (refine wpList_store_row rfl _ _ _ rfl R4 (arrU (winF m q)) rfl rfl 108 (arrU fun _ => 0) HAD.out (Try.sizeAU _) (by rw [arrU_size, arrU_size]) (arrU_one _) ?_)
  obtain ⟨w4, hw4⟩ : ∃ w4, wd.setRow R4 (arrU (winF m q)) = w4 := ⟨_, rfl⟩
  rw [hw4]
  have HB4 : Hid (Below wb.heap.size wb w4) := by rw [← hw4]; exact below_row HBD2.out hR4.out _
  have HAD4 : Hid (ArrU w4 R4 (winF m q)) := by rw [← hw4]; exact setRow_heap _ _ _ _ _ _ HAD.out
  have HX4 := Lib.hid (keep_block HXB.out HB4.out)
  have HA4 : Hid (ArrI w4 R2 fun _ => 0) := keep_block HAA.out HB4.out
  have HL4 : Hid (ArrI w4 R3 (leftA f m q 0)) := by
    show _ = some (Obj.cells (arrI (leftA f m q 0)) _ _)
    rw [leftA_zero]
    exact keep_block HAB.out HB4.out
  have HBW4 := Lib.hid (HBB.out.trans (HB4.out.mono HBB.out.size))
  have hne1 : P ≠ R3 := by have := HO1.out; omega
  have hne2 : R4 ≠ R3 := by have := HO2.out; omega
  have hne3 : R3 ≠ P := Ne.symm hne1
  have hne4 : R3 ≠ R4 := Ne.symm hne2
  clear hw4 hwd hNd
  go_loopg [6, 14] 16 (fun gg _ s14 wr => ∃ k : Nat, k ≤ 16 ∧ gg = 16 - k ∧ s14 = .int .i64 k ∧ Apart (fun b => b = R3) w4 wr ∧ ArrI wr R3 (leftA f m q k))
  case atStart => exact ⟨0, Nat.zero_le _, rfl, rfl, Apart.refl _ _, HL4.out⟩
  case round =>
    obtain ⟨k, hk, hg, rfl, hat, harr⟩ := hrel
    have HG := Lib.hid hg
    have HAT := Lib.hid hat
    have HAR := Lib.hid harr
    have HXR := Lib.hid ((hat.block P (heap_lt HX4.out) hne1).trans HX4.out)
    have HDR : Hid (ArrU wr R4 (winF m q)) := (hat.block R4 (heap_lt HAD4.out) hne2).trans HAD4.out
    have HBR := Lib.hid (HBW4.out.trans (hat.below HBW4.out.size fun b hb e => by have := HO1.out; omega))
    obtain ⟨r0, r1, r2⟩ := three_heads HXR.out
    clear hg hat harr
    by_cases hlt : k < 16
    · have hltz : (k : Int) < 16 := by omega
      have hk0 : (0 : Int) ≤ (k : Int) := by omega
      have HCC := Lib.hid (fun w => HHC.out (.slice A n cA) (k : Int) w)
      rw [hasC_nat hlt] at HCC
      cases hb : m.testBit k with
      | false =>
        rw [hb] at HCC
        have HE := Lib.hid (leftA_no (f := f) (q := q) hb)
        clear hb
        go_wp2_with fail
        refine (HCC.out _).mono ?_
        rintro e w5 ⟨rfl, hb5⟩
        have HAT5 := Lib.hid (HAT.out.trans (Apart.of_below (F := fun b => b = R3) hb5) fun _ _ e => e)
        have HAR5 : Hid (ArrI w5 R3 (leftA f m q (k + 1))) := by
          show _ = some (Obj.cells (arrI (leftA f m q (k + 1))) _ _)
          rw [← HE.out]
          exact keep_block HAR.out hb5
        clear hb5
        go_wp2_with fail
        go_roundg (16 - (k + 1))
        case measure => have := HG.out; omega
        case rel => exact ⟨k + 1, by omega, rfl, by go_num, HAT5.out, HAR5.out⟩
      | true =>
        rw [hb] at HCC
        have HE := Lib.hid (leftA_yes (f := f) (q := q) hb)
        have HML := Lib.hid (show winF m q k < 18446744073709551616 by unfold winF; rw [if_pos hb]; exact winN_lt _ _)
        have hc64 := cnt_le (winF m q k)
        have HCN := Lib.hid (fun W => count_any (winF m q k) W HML.out)
        obtain ⟨c, hc⟩ : ∃ c, cnt (winF m q k) = c := ⟨_, rfl⟩
        rw [hc] at HE hc64 HCN
        have HDC := Lib.hid (HDR.out.cell hlt)
        obtain ⟨M, hM⟩ : ∃ M, winF m q k = M := ⟨_, rfl⟩
        rw [hM] at HML HCN HDC
        have hw64 : IntKind.i64.wrap (f - (c : Int)) = f - (c : Int) := IntWalk.i64_in _ (by omega)
        clear hb hM hc
        go_wp2_with fail
        refine (HCC.out _).mono ?_
        rintro e w5 ⟨rfl, hb5⟩
        have HAT5 := Lib.hid (HAT.out.trans (Apart.of_below (F := fun b => b = R3) hb5) fun _ _ e => e)
        have HAR5 : Hid (ArrI w5 R3 (leftA f m q k)) := keep_block HAR.out hb5
        have HXR5 := Lib.hid (keep_block HXR.out hb5)
        obtain ⟨q0, q1, q2⟩ := three_heads HXR5.out
        have d0 : w5.cell? ⟨R4, k, none⟩ = some (.int .u64 M) := (hb5.cell (p := ⟨R4, k, none⟩) (heap_lt HDR.out)).trans HDC.out
        have t0 := HAR5.out.cell hlt
        have t1 := HAR5.out.frozen k
        clear hb5 r0 r1 r2
        go_wp2_with fail
        go_region_held3 (fun w' => w'.cell? ⟨P, 0, none⟩ = some (.int .i64 f) ∧ w'.cell? ⟨R4, k, none⟩ = some (.int .u64 M)) (go_keep) (first | (go_at_call 73; refine (HCN.out _).mono ?_; rintro e w' ⟨rfl, rfl⟩))
        all_goals
          go_wp2_with fail
          go_roundg (16 - (k + 1))
          case measure => have := HG.out; omega
          case rel =>
            refine ⟨k + 1, by omega, rfl, by go_num, (HAT5.out.set (p := ⟨R3, k, none⟩) (.inl rfl) _).drewN 1, ?_⟩
            have h1 := ArrI.set HAR5.out k (f - (c : Int))
            show _ = some (Obj.cells (arrI _) _ _)
            rw [← HE.out]
            exact h1
    · have hk16 : k = 16 := by omega
      subst hk16
      have HAR0 : Hid (ArrI wr R3 (leftB f m q (l.take 0))) := by
        show _ = some (Obj.cells (arrI _) _ _)
        rw [List.take_zero, ← leftB_zero]
        exact HAR.out
      obtain ⟨wo, rfl⟩ : ∃ wo : World, wo = wr := ⟨_, rfl⟩
      go_wp2_with fail
      go_loopg [8, 33] n (fun gg _ s33 wr => ∃ k : Nat, k ≤ n ∧ gg = n - k ∧ s33 = .int .i64 k ∧ Apart (fun b => b = R3) w4 wr ∧ ArrI wr R3 (leftB f m q (l.take k)))
      case atStart => exact ⟨0, Nat.zero_le _, by omega, rfl, HAT.out, HAR0.out⟩
      case round =>
        obtain ⟨k, hk, hg, rfl, hat, harr⟩ := hrel
        have HG := Lib.hid hg
        have HATK := Lib.hid hat
        have HARK := Lib.hid harr
        have HXR := Lib.hid ((hat.block P (heap_lt HX4.out) hne1).trans HX4.out)
        have HA2 : Hid (ArrI wr R2 fun _ => 0) := (hat.block R2 (heap_lt HA4.out) (by have := HO1.out; omega)).trans HA4.out
        have HB := Lib.hid (HBW4.out.trans (hat.below HBW4.out.size fun b hb e => by have := HO1.out; omega))
        have HBX := HXR
        obtain ⟨r0, r1, r2⟩ := three_heads HXR.out
        clear hg hat harr
        by_cases hlt : k < n
        · have hk0 : (0 : Int) ≤ (k : Int) := by omega
          have hltz : (k : Int) < (n : Int) := by omega
          obtain ⟨x, hx⟩ := exP_at (xs := l) (k := k) (by rw [HN.out]; exact hlt)
          obtain ⟨b, off, B, d, hA, hbl, _, hpl, hps⟩ := HL.out.at_ hx
          obtain ⟨c0, c1, c2, c3⟩ := hpl.keep (HB.out.block b hbl)
          subst hA
          simp only at c0 c1 c2 c3
          have HX := Lib.hid hx
          have HPS := Lib.hid hps
          clear hx hps hpl
          obtain ⟨w2, N, hw2, hN, hNl, hb2, hxbox⟩ := box_any wr #[.int .i64 x.u, .int .i64 x.s, .int .i64 x.c, .slice B x.ps.length d] 41
          have HB2 := Lib.hid hb2
          have HXB := Lib.hid hxbox
          obtain ⟨x0, x1, x2, x3⟩ := four_heads hxbox
          obtain ⟨p0, p1, p2⟩ := three_heads (keep_block HBX.out hb2)
          clear hb2 hxbox
          have HIC := Lib.hid (fun w => HIW.out B x.ps.length d x w)
          have hxs := HSH.out x (List.mem_of_getElem? HX.out)
          have HAT2 := Lib.hid (HATK.out.trans (Apart.of_below (F := fun b => b = R3) HB2.out) fun _ _ e => e)
          have HAR2 : Hid (ArrI w2 R3 (leftB f m q (l.take k))) := keep_block HARK.out HB2.out
          have HXR2 := Lib.hid (keep_block HXR.out HB2.out)
          cases hz : decide (x.ps.length = 0) with
          | false =>
            rw [hz] at HIC
            have HE := Lib.hid (leftB_no (f := f) (m := m) (q := q) HX.out (fun i _ _ => by unfold wholeB; rw [hz]; rfl))
            clear hz
            go_wp2_with fail
            refine (HIC.out _).mono ?_
            rintro e w5 ⟨rfl, hb5⟩
            have HAT5 := Lib.hid (HAT2.out.trans (Apart.of_below (F := fun b => b = R3) hb5) fun _ _ e => e)
            have HAR5 : Hid (ArrI w5 R3 (leftB f m q (l.take (k + 1)))) := by
              show _ = some (Obj.cells (arrI _) _ _)
              rw [← HE.out]
              exact keep_block HAR2.out hb5
            clear hb5
            go_wp2_with fail
            go_roundg (n - (k + 1))
            case measure => have := HG.out; omega
            case rel => exact ⟨k + 1, by omega, rfl, by go_num, HAT5.out, HAR5.out⟩
          | true =>
            rw [hz] at HIC
            have hz0 := of_decide_eq_true hz
            have HCC := Lib.hid (fun w => HHC.out (.slice (some ⟨b, off, none⟩) n cA) x.c w)
            cases hh : hasC m x.c with
            | false =>
              rw [hh] at HCC
              have HE := Lib.hid (leftB_no (f := f) (m := m) (q := q) HX.out (fun i hi hbi => by
                have h0 : decide (x.c = (i : Int)) = false := decide_eq_false (fun e => by rw [e, hasC_nat hi, hbi] at hh; cases hh)
                unfold wholeB
                rw [h0, Bool.and_false]))
              clear hz hz0 hh
              go_wp2_with fail
              refine (HIC.out _).mono ?_
              rintro e w5 ⟨rfl, hb5⟩
              have HAT5 := Lib.hid (HAT2.out.trans (Apart.of_below (F := fun b => b = R3) hb5) fun _ _ e => e)
              have HAR5 : Hid (ArrI w5 R3 (leftB f m q (l.take k))) := keep_block HAR2.out hb5
              obtain ⟨q0, q1, q2⟩ := three_heads (keep_block HXR2.out hb5)
              obtain ⟨y0, y1, y2, y3⟩ := four_heads (keep_block HXB.out hb5)
              clear hb5 x0 x1 x2 x3 p0 p1 p2 r0 r1 r2 c0 c1 c2 c3 hw2 hN
              go_wp2_with fail
              refine (HCC.out _).mono ?_
              rintro e w6 ⟨rfl, hb6⟩
              have HAT6 := Lib.hid (HAT5.out.trans (Apart.of_below (F := fun b => b = R3) hb6) fun _ _ e => e)
              have HAR6 : Hid (ArrI w6 R3 (leftB f m q (l.take (k + 1)))) := by
                show _ = some (Obj.cells (arrI _) _ _)
                rw [← HE.out]
                exact keep_block HAR5.out hb6
              clear hb6
              go_wp2_with fail
              go_roundg (n - (k + 1))
              case measure => have := HG.out; omega
              case rel => exact ⟨k + 1, by omega, rfl, by go_num, HAT6.out, HAR6.out⟩
            | true =>
              rw [hh] at HCC
              obtain ⟨xu, xs, xc, ps⟩ := x
              simp only at *
              obtain ⟨C, rfl⟩ : ∃ C : Nat, xc = (C : Int) := ⟨xc.toNat, by have := hasC_range hh; omega⟩
              have hC : C < 16 := by have := hasC_range hh; omega
              have hCz : (C : Int) < 16 := by omega
              have hC0 : (0 : Int) ≤ (C : Int) := by omega
              have HE := Lib.hid (leftB_yes (f := f) (q := q) HX.out rfl hz0 (show m.testBit C = true by rw [← hasC_nat hC]; exact hh))
              simp only at HE
              have hbd := HBD.out k C
              obtain ⟨D, hD⟩ : ∃ D, leftB f m q (l.take k) C = D := ⟨_, rfl⟩
              rw [hD] at HE hbd
              have HD := Lib.hid hD
              obtain ⟨hd1, hd2⟩ := hbd
              obtain ⟨hs1, hs2⟩ := hxs
              clear hz hz0 hh hD
              go_wp2_with fail
              refine (HIC.out _).mono ?_
              rintro e w5 ⟨rfl, hb5⟩
              have HAT5 := Lib.hid (HAT2.out.trans (Apart.of_below (F := fun b => b = R3) hb5) fun _ _ e => e)
              have HAR5 : Hid (ArrI w5 R3 (leftB f m q (l.take k))) := keep_block HAR2.out hb5
              have HXB5 := Lib.hid (keep_block HXB.out hb5)
              obtain ⟨q0, q1, q2⟩ := three_heads (keep_block HXR2.out hb5)
              obtain ⟨y0, y1, y2, y3⟩ := four_heads HXB5.out
              clear hb5 x0 x1 x2 x3 p0 p1 p2 r0 r1 r2 c0 c1 c2 c3 hw2 hN
              go_wp2_with fail
              refine (HCC.out _).mono ?_
              rintro e w6 ⟨rfl, hb6⟩
              have HAT6 := Lib.hid (HAT5.out.trans (Apart.of_below (F := fun b => b = R3) hb6) fun _ _ e => e)
              have HAR6 : Hid (ArrI w6 R3 (leftB f m q (l.take k))) := keep_block HAR5.out hb6
              obtain ⟨z0, z1, z2, z3⟩ := four_heads (keep_block HXB5.out hb6)
              have t0 : w6.cell? ⟨R3, C, none⟩ = some (.int .i64 D) := by rw [← HD.out]; exact HAR6.out.cell hC
              have t1 := HAR6.out.frozen C
              clear hb6 y0 y1 y2 y3 q0 q1 q2
              go_wp2_with fail
              go_region
              go_wp2_with fail
              go_roundg (n - (k + 1))
              case measure => have := HG.out; omega
              case rel =>
                refine ⟨k + 1, by omega, rfl, by go_num, (HAT6.out.set (p := ⟨R3, C, none⟩) (.inl rfl) _).drewN 1, ?_⟩
                have h1 := ArrI.set HAR6.out C (D - xs)
                show _ = some (Obj.cells (arrI _) _ _)
                rw [← HE.out]
                exact h1
        · have hltz : ¬ (k : Int) < (n : Int) := by omega
          have HE : Hid (ArrI wr R3 fun i => roomN f m l (i : Int)) := by
            have h := HARK.out
            rw [List.take_of_length_le (by rw [HN.out]; omega)] at h
            show _ = some (Obj.cells (arrI _) _ _)
            rw [← HRM.out]
            exact h
          go_wp2_with (first
            | (refine wpList_load_row rfl _ _ rfl R3 rfl 93 (arrI fun i => roomN f m l (i : Int)) (0, 0) _ HE.out Try.underlying93 rfl (Try.sizeAI _) ?_)
            | (refine wpList_store_row rfl _ _ _ rfl R2 (arrI fun i => roomN f m l (i : Int)) rfl rfl 93 (arrI fun _ => 0) HA2.out (Try.sizeAI _) (by rw [arrI_size, arrI_size]) (arrI_one _) ?_))
          refine bodyPost_ret (v := .agg (arrI fun i => roomN f m l (i : Int))) (results_cell_row rfl _ _ R2 _ _ _ _ rfl (setRow_heap _ _ _ _ _ _ HA2.out) Try.underlying93 rfl (Try.sizeAI _)) rfl ?_
          exact ⟨rfl, below_row HB.out (by have := HO1.out; omega) _⟩
end Go.Proofs.Ytpfpojehcjmfnaa

/-
  The document's apart: at no tick of a core are there two.
  Conditions: the slice reads as places; the numbers are of their kinds.
-/
set_option linter.unusedVariables false
namespace Go.Proofs.Ytpfpojehcjmfnaa
open Go.RowKit Go.Sort

def ApartD (q : List Pc) : Prop := ∀ c : Nat, c < 16 → ∀ t, t < 64 → nOn q (c : Int) t ≤ 1
theorem pcs_len : ∀ (l : List Pl), (∀ x ∈ l, x.ps.length ≤ 1000) → (pcsOf l).length ≤ 1000 * l.length
  | [], _ => Nat.le_refl _
  | x :: l, h => by
    have h1 := h x (by simp)
    have h2 := pcs_len l fun y hy => h y (by simp [hy])
    rw [pcsOf_cons, List.length_append, List.length_cons]
    omega
theorem nOn_bound {l : List Pl} (hL : LightL l) (k : Nat) (c : Int) (t : Nat) : nOn (pcsOf (l.take k)) c t ≤ 1000000 := by
  have h1 := pcs_len (l.take k) fun x hx => (hL.ok x (List.mem_of_mem_take hx)).2
  have h2 := hL.len
  have h3 : nOn (pcsOf (l.take k)) c t ≤ (pcsOf (l.take k)).length := List.countP_le_length
  rw [List.length_take] at h1
  omega
end Go.Proofs.Ytpfpojehcjmfnaa

/-
  Units: Unit, Kind, the document's Is and Group; a sum, or that it runs over.
  Conditions: the arguments are ints.
-/
set_option linter.unusedVariables false
namespace Go.Proofs.Ytpfpojehcjmfnaa
open Go.RowKit

theorem and_dec (p q : Prop) [Decidable p] [Decidable q] : (decide p && decide q) = decide (p ∧ q) := by simp

theorem isTask_any (u : Int) (W : World) : Calls Try.prog 65 #[.int .i64 u] W (Ret (.bool (isTaskB u)) W) := by
  unfold isTaskB
  by_cases h1 : 1 ≤ u
  · have g1 : decide (1 ≤ u) = true := decide_eq_true h1
    rw [g1, Bool.true_and]
    go_enter Try.func65, Try.ntmps65
    go_wp2
    go_ret
    exact ⟨by simp_all, rfl⟩
  · have g1 : decide (1 ≤ u) = false := decide_eq_false h1
    rw [g1, Bool.false_and]
    go_enter Try.func65, Try.ntmps65
    go_wp2
    go_ret
    exact ⟨by simp_all, rfl⟩
theorem isGroup_any (u : Int) (W : World) : Calls Try.prog 66 #[.int .i64 u] W (Ret (.bool (isGroupB u)) W) := by
  unfold isGroupB
  by_cases h1 : 1 ≤ u
  · have g1 : decide (1 ≤ u) = true := decide_eq_true h1
    rw [g1, Bool.true_and]
    go_enter Try.func66, Try.ntmps66
    go_wp2
    go_ret
    exact ⟨by simp_all, rfl⟩
  · have g1 : decide (1 ≤ u) = false := decide_eq_false h1
    rw [g1, Bool.false_and]
    go_enter Try.func66, Try.ntmps66
    go_wp2
    go_ret
    exact ⟨by simp_all, rfl⟩

/-- What Unit answers: the unit (0: none), the error. -/
def unitU (id : Int) (g : Bool) : Int := if g then (if isGroupB id then id + 1000 else 0) else (if isTaskB id then id else 0)
def unitE (id : Int) (g : Bool) : Int := if g then (if isGroupB id then 0 else 20) else (if isTaskB id then 0 else 20)
/-- What Kind answers. -/
def kindI (u : Int) : Int := if isTaskB u then u else if isU u then u - 1000 else 0
def kindG (u : Int) : Bool := !isTaskB u && isU u
theorem isU_task {u : Int} (h : isTaskB u = true) : isU u = true := by unfold isTaskB at h; unfold isU; rw [h]; rfl
theorem group_wrap {u : Int} (h1 : -9223372036854775808 ≤ u) (h2 : u ≤ 9223372036854775807) (ht : isTaskB u = false) : isGroupB (wrap64 (u - 1000)) = isU u := by
  unfold isTaskB at ht
  unfold isGroupB isU
  rw [ht, Bool.false_or]
  unfold wrap64
  rw [Bool.eq_iff_iff]
  simp
  omega
theorem kind_any (u : Int) (h1 : -9223372036854775808 ≤ u) (h2 : u ≤ 9223372036854775807) (W : World) :
    Calls Try.prog 41 #[.int .i64 u] W (Ret (.tuple #[.int .i64 (kindI u), .bool (kindG u), .bool (isU u)]) W) := by
  have HG := Lib.hid (fun x W => isGroup_any x W)
  have HT := Lib.hid (fun W => isTask_any u W)
  unfold kindI kindG
  cases ht : isTaskB u
  · rw [ht] at HT
    have hg := group_wrap h1 h2 ht
    simp only [Bool.false_eq_true, if_false, Bool.not_false, Bool.true_and]
    cases hu : isU u
    · rw [hu] at hg
      have HGN := Lib.hid (fun W => by have := HG.out (wrap64 (u - 1000)) W; rw [hg] at this; exact this)
      simp only [Bool.false_eq_true, if_false]
      clear h1 h2 ht hg hu HG
      go_enter Try.func41, Try.ntmps41
      go_wp2_with (first
        | (go_at_call 65; refine (HT.out _).mono ?_; rintro e w' ⟨rfl, rfl⟩)
        | (go_at_call 66; refine (HGN.out _).mono ?_; rintro e w' ⟨rfl, rfl⟩))
      go_returns
      exact ⟨rfl, rfl⟩
    · rw [hu] at hg
      have HGN := Lib.hid (fun W => by have := HG.out (wrap64 (u - 1000)) W; rw [hg] at this; exact this)
      have hw : wrap64 (u - 1000) = u - 1000 := by
        unfold isTaskB at ht
        unfold isU at hu
        rw [ht] at hu
        simp at hu
        unfold wrap64
        omega
      simp only [if_true]
      rw [hw] at HGN
      clear h1 h2 ht hg hu HG
      go_enter Try.func41, Try.ntmps41
      go_wp2_with (first
        | (go_at_call 65; refine (HT.out _).mono ?_; rintro e w' ⟨rfl, rfl⟩)
        | (go_at_call 66; refine (HGN.out _).mono ?_; rintro e w' ⟨rfl, rfl⟩))
      go_returns
      exact ⟨rfl, rfl⟩
  · rw [ht] at HT
    rw [isU_task ht]
    simp only [if_true, Bool.not_true, Bool.false_and]
    clear h1 h2 ht HG
    go_enter Try.func41, Try.ntmps41
    go_wp2_with (go_at_call 65; refine (HT.out _).mono ?_; rintro e w' ⟨rfl, rfl⟩)
    go_returns
    exact ⟨rfl, rfl⟩
end Go.Proofs.Ytpfpojehcjmfnaa

/-
  The document's place: what a place may be by itself.
  Conditions: the slice reads as pieces; the numbers are of their kinds.
-/
set_option linter.unusedVariables false
set_option linter.unusedSimpArgs false
namespace Go.Proofs.Ytpfpojehcjmfnaa
open Go.RowKit Go.Sort

theorem last_at {q : List Pc} {k : Nat} {z : Pc} (hz : q[k]? = some z) : ((q.take (k + 1)).getLast?.map Pc.c).getD (-1) = z.c := by
  rw [List.take_add_one, hz, Option.toList_some, List.getLast?_append]
  rfl
theorem rise_next {m : Nat} {q : List Pc} {k : Nat} {y : Pc} (hy : q[k]? = some y) : Rise m (-1) (q.take (k + 1)) ↔ Rise m (-1) (q.take k) ∧ hasC m y.c = true ∧ ((q.take k).getLast?.map Pc.c).getD (-1) < y.c ∧ y.t ≠ 0 := by
  rw [List.take_add_one, hy, Option.toList_some, rise_snoc]
theorem rise_take {m : Nat} {q : List Pc} (h : Rise m (-1) q) (k : Nat) : Rise m (-1) (q.take k) := by
  rw [← List.take_append_drop k q] at h
  exact rise_prefix _ _ _ h
end Go.Proofs.Ytpfpojehcjmfnaa

/-
  The document's Right: which plans are right.
  Conditions: the slice reads as places; the numbers are of their kinds.
-/
set_option linter.unusedVariables false
set_option linter.unusedSimpArgs false
namespace Go.Proofs.Ytpfpojehcjmfnaa
open Go.RowKit Go.Sort

theorem coresN_le (m : Nat) : coresN m ≤ 16 := cntT_le m 16
/-- What a right plan's places are, the first k looked at. -/
def UpTo (f : Int) (m : Nat) (l : List Pl) (k : Nat) : Prop := (∀ (i : Nat) (x : Pl), i < k → l[i]? = some x → PlaceOk f m x) ∧ ∀ (i : Nat) (x y : Pl), i + 1 < k → l[i]? = some x → l[i + 1]? = some y → x.u < y.u
theorem UpTo.next {f : Int} {m : Nat} {l : List Pl} {k : Nat} {x : Pl} (h : UpTo f m l k) (hx : l[k]? = some x) (hp : PlaceOk f m x) (ha : ∀ (i : Nat) (z : Pl), i + 1 = k → l[i]? = some z → z.u < x.u) : UpTo f m l (k + 1) := by
  refine ⟨fun i y hi hy => ?_, fun i y z hi hy hz => ?_⟩
  · by_cases e : i = k
    · subst e; rw [hx] at hy; cases hy; exact hp
    · exact h.1 i y (by omega) hy
  · by_cases e : i + 1 = k
    · subst e; rw [hx] at hz; cases hz; exact ha i y rfl hy
    · exact h.2 i y z (by omega) hy hz
theorem UpTo.all {f : Int} {m : Nat} {l : List Pl} {n : Nat} (h : UpTo f m l n) (hn : l.length = n) : (∀ x ∈ l, PlaceOk f m x) ∧ ∀ (i : Nat) (x y : Pl), l[i]? = some x → l[i + 1]? = some y → x.u < y.u := by
  refine ⟨fun x hx => ?_, fun i x y hx hy => h.2 i x y ?_ hx hy⟩
  · obtain ⟨i, hi, e⟩ := List.getElem_of_mem hx
    exact h.1 i x (by omega) (by rw [List.getElem?_eq_getElem hi, e])
  · have := (List.getElem?_eq_some_iff.1 hy).1
    omega
theorem shares_of {f : Int} {m : Nat} {l : List Pl} (h : ∀ x ∈ l, PlaceOk f m x) (hf : f ≤ 64) : Shares l := fun x hx => by
  have h1 := (h x hx).s1
  have h2 := (h x hx).s2
  omega
theorem ticks16 {m k : Nat} {x : Int} (h : (ticksI m 16)[k]? = some x) : ∃ C : Nat, x = (C : Int) ∧ C < 16 ∧ m.testBit C = true ∧ cntT m C = k := by
  unfold ticksI at h
  rw [List.getElem?_map] at h
  obtain ⟨j, hj, rfl⟩ := Option.map_eq_some_iff.1 h
  obtain ⟨h1, h2, h3⟩ := (tickT_iff m 16 k j).1 hj
  exact ⟨j, rfl, h1, h2, h3⟩
end Go.Proofs.Ytpfpojehcjmfnaa

/-
  Which plans the program finds right: the same as the document.
  Conditions: none.
-/
set_option linter.unusedVariables false
namespace Go.Proofs.Ytpfpojehcjmfnaa

/-! ### The check of wants -/
theorem chkE_zero {f : Int} {b : List Sp} {y : Sp} : chkE f b y = 0 ↔ isU y.1 = true ∧ 1 ≤ y.2 ∧ y.2 ≤ f ∧ (b.any fun s => decide (s.1 = y.1)) = false := by
  unfold chkE
  cases hu : isU y.1 with
  | false => simp
  | true =>
    rw [if_neg (by simp)]
    by_cases h : y.2 < 1 ∨ f < y.2
    · rw [if_pos h]
      constructor
      · intro h'; exact absurd h' (by decide)
      · rintro ⟨_, h1, h2, _⟩; omega
    · rw [if_neg h]
      cases hb : (b.any fun s => decide (s.1 = y.1)) with
      | true => simp
      | false =>
        rw [if_neg (by simp)]
        exact ⟨fun _ => ⟨rfl, by omega, by omega, rfl⟩, fun _ => rfl⟩
theorem chkL_zero {f : Int} : ∀ (r b : List Sp), chkL f b r = 0 ↔ ∀ (i : Nat) (y : Sp), r[i]? = some y → chkE f (b ++ r.take i) y = 0
  | [], b => by simp [chkL]
  | y :: r, b => by
    unfold chkL
    constructor
    · intro h
      by_cases he : chkE f b y = 0
      · have h := (chkL_zero r (b ++ [y])).1 (by simpa [he] using h)
        intro i z hi
        cases i with
        | zero =>
          have : y = z := by simpa using hi
          subst this
          simpa using he
        | succ i =>
          have := h i z (by simpa using hi)
          simpa [List.append_assoc] using this
      · exact absurd h (by simp [he])
    · intro h
      have he : chkE f b y = 0 := by have := h 0 y rfl; simpa using this
      have h2 := (chkL_zero r (b ++ [y])).2 fun i z hi => by
        have := h (i + 1) z (by simpa using hi)
        simpa [List.append_assoc] using this
      simp [he, h2]

/-- What the program asks of units. -/
def Rises (l : List Pl) : Prop := ∀ (i : Nat) (x y : Pl), l[i]? = some x → l[i + 1]? = some y → x.u ≤ y.u
structure UnitsOk (f : Int) (l : List Pl) : Prop where
  chk : chkT f (wantsT l) = 0
  rises : Rises l
theorem Rises.far {l : List Pl} (h : Rises l) : ∀ (d i : Nat) (x y : Pl), l[i]? = some x → l[i + d]? = some y → x.u ≤ y.u
  | 0, i, x, y, hx, hy => by
    rw [Nat.add_zero, hx] at hy
    cases hy
    exact Int.le_refl _
  | d + 1, i, x, y, hx, hy => by
    have hlt : i + (d + 1) < l.length := (List.getElem?_eq_some_iff.1 hy).1
    have hz : l[i + d]? = some l[i + d] := List.getElem?_eq_getElem (by omega)
    have h1 := Rises.far h d i x _ hx hz
    have h2 := h (i + d) _ y hz (by rw [← hy]; congr 1)
    omega
theorem wants_get {l : List Pl} {i : Nat} {y : Sp} : (wantsT l)[i]? = some y ↔ ∃ x, l[i]? = some x ∧ y = (x.u, x.s) := by
  unfold wantsT
  rw [List.getElem?_map, Option.map_eq_some_iff]
  exact ⟨fun ⟨x, h1, h2⟩ => ⟨x, h1, h2.symm⟩, fun ⟨x, h1, h2⟩ => ⟨x, h1, h2.symm⟩⟩
theorem units_iff {f : Int} {l : List Pl} : UnitsOk f l ↔ (2 ≤ f ∧ f ≤ 64) ∧ (∀ x ∈ l, isU x.u = true ∧ 1 ≤ x.s ∧ x.s ≤ f) ∧ ∀ (i : Nat) (x y : Pl), l[i]? = some x → l[i + 1]? = some y → x.u < y.u := by
  constructor
  · rintro ⟨hc, hr⟩
    unfold chkT at hc
    by_cases hf : f < 2 ∨ 64 < f
    · rw [if_pos hf] at hc; exact absurd hc (by decide)
    · rw [if_neg hf] at hc
      have h := (chkL_zero (wantsT l) []).1 hc
      have key : ∀ (i : Nat) (x : Pl), l[i]? = some x → isU x.u = true ∧ 1 ≤ x.s ∧ x.s ≤ f ∧ (((wantsT l).take i).any fun s => decide (s.1 = x.u)) = false := fun i x hx => by
        have := chkE_zero.1 (h i (x.u, x.s) (wants_get.2 ⟨x, hx, rfl⟩))
        simpa using this
      refine ⟨by omega, fun x hx => ?_, fun i x y hx hy => ?_⟩
      · obtain ⟨i, hi, e⟩ := List.getElem_of_mem hx
        obtain ⟨h1, h2, h3, _⟩ := key i x (by rw [List.getElem?_eq_getElem hi, e])
        exact ⟨h1, h2, h3⟩
      · have h1 := hr i x y hx hy
        obtain ⟨_, _, _, h2⟩ := key (i + 1) y hy
        have h3 : x.u ≠ y.u := fun e => by
          have hm : (((wantsT l).take (i + 1)).any fun s => decide (s.1 = y.u)) = true := by
            rw [List.any_eq_true]
            refine ⟨(x.u, x.s), ?_, by simpa using e⟩
            rw [List.mem_iff_getElem?]
            exact ⟨i, by rw [List.getElem?_take, if_pos (by omega)]; exact wants_get.2 ⟨x, hx, rfl⟩⟩
          rw [h2] at hm
          cases hm
        omega
  · rintro ⟨hf, hp, ha⟩
    have hr : Rises l := fun i x y hx hy => by have := ha i x y hx hy; omega
    have hs : ∀ (d i : Nat) (x y : Pl), l[i]? = some x → l[i + d + 1]? = some y → x.u < y.u := fun d i x y hx hy => by
      have hlt : i + d + 1 < l.length := (List.getElem?_eq_some_iff.1 hy).1
      have hz : l[i + d]? = some l[i + d] := List.getElem?_eq_getElem (by omega)
      have h1 := hr.far d i x _ hx hz
      have h2 := ha (i + d) _ y hz hy
      omega
    refine ⟨?_, hr⟩
    unfold chkT
    rw [if_neg (by omega), chkL_zero]
    intro i y hy
    obtain ⟨x, hx, rfl⟩ := wants_get.1 hy
    obtain ⟨h1, h2, h3⟩ := hp x (List.mem_of_getElem? hx)
    rw [chkE_zero]
    refine ⟨h1, h2, h3, ?_⟩
    rw [List.any_eq_false]
    intro s hs'
    rw [List.nil_append] at hs'
    obtain ⟨j, hj⟩ := List.mem_iff_getElem?.1 hs'
    rw [List.getElem?_take] at hj
    split at hj
    · obtain ⟨z, hz, rfl⟩ := wants_get.1 hj
      rename_i hji
      obtain ⟨d, hd⟩ : ∃ d, i = j + d + 1 := ⟨i - j - 1, by omega⟩
      subst hd
      have := hs d j z x hz hx
      simpa using (show z.u ≠ x.u by omega)
    · cases hj

/-- What the program asks of each place. -/
structure WS (f : Int) (m : Nat) (x : Pl) : Prop where
  whole : x.ps = [] → hasC m x.c = true
  split : x.ps ≠ [] → SplitOk f m x
/-- What it asks of all together. -/
structure FitsOk (f : Int) (m : Nat) (l : List Pl) : Prop where
  apart : ApartP m (pcsOf l)
  room : ∀ i : Nat, i < 16 → 0 ≤ roomN f m l (i : Int)
  few : splitsN l < cnt m
theorem pcs_has {f : Int} {m : Nat} {l : List Pl} (h : ∀ x ∈ l, PlaceOk f m x) : ∀ y ∈ pcsOf l, hasC m y.c = true := fun y hy => by
  obtain ⟨x, hx, hy⟩ := mem_pcsOf.1 hy
  exact (h x hx).has y hy
theorem nOn_lack {m : Nat} {q : List Pc} (h : ∀ y ∈ q, hasC m y.c = true) {c : Nat} (hc : c < 16) (hb : m.testBit c = false) (t : Nat) : nOn q (c : Int) t = 0 := by
  rcases Nat.eq_zero_or_pos (nOn q (c : Int) t) with h0 | h0
  · exact h0
  · obtain ⟨y, hy, e, _⟩ := nOn_pos.1 h0
    have := h y hy
    rw [e, hasC_nat hc, hb] at this
    cases this
theorem check_iff {f : Int} {m : Nat} {l : List Pl} : (m ≠ 0 ∧ m < 65536) ∧ UnitsOk f l ∧ (∀ x ∈ l, WS f m x) ∧ FitsOk f m l ↔ Right f m l := by
  constructor
  · rintro ⟨⟨h1, h2⟩, hu, hw, hf⟩
    obtain ⟨hff, hp, ha⟩ := units_iff.1 hu
    have hpl : ∀ x ∈ l, PlaceOk f m x := fun x hx => ⟨(hp x hx).1, (hp x hx).2.1, (hp x hx).2.2, (hw x hx).whole, (hw x hx).split⟩
    refine ⟨hff.1, hff.2, h1, h2, hpl, ha, fun c hc t ht => ?_, by rw [← cores_cnt h2]; exact hf.few, fun c hc hb => ?_⟩
    · cases hb : m.testBit c with
      | true => exact hf.apart c hc hb t ht
      | false => rw [nOn_lack (pcs_has hpl) hc hb]; exact Nat.zero_le _
    · have := hf.room c hc
      unfold roomN at this
      rw [hasC_nat hc, hb, if_pos rfl] at this
      omega
  · intro h
    refine ⟨⟨h.m0, h.m16⟩, units_iff.2 ⟨⟨h.f2, h.f64⟩, fun x hx => ⟨(h.place x hx).unit, (h.place x hx).s1, (h.place x hx).s2⟩, h.asc⟩, fun x hx => ⟨(h.place x hx).whole, (h.place x hx).split⟩, fun i hi _ t ht => h.apart i hi t ht, fun i hi => ?_, by rw [cores_cnt h.m16]; exact h.few⟩
    unfold roomN
    rw [hasC_nat hi]
    cases hb : m.testBit i with
    | true => rw [if_pos rfl]; have := h.load i hi hb; omega
    | false => rw [if_neg (by simp)]; exact Int.le_refl _
end Go.Proofs.Ytpfpojehcjmfnaa
