/-
  Units: Unit, Kind, the document's Is and Group; a sum, or that it runs over.
  Conditions: the arguments are ints.
-/
import Derived.Test.YtkgkanmccaodfaaM07
import Derived.Test.YtkgkanmccaodfaaM04
import Derived.Test.YtkgkanmccaodfaaM02

/-
  rooms, Windows, Room and Free of the program.
  Conditions: the slice reads as places; the numbers are small.
-/
set_option linter.unusedVariables false
namespace Go.Proofs.Ytkgkanmccaodfaa
open Go.RowKit Go.Sort

/-- The rooms by the windows alone, the first k of them. -/
def leftA (f : Int) (m : Nat) (q : List Pc) (k i : Nat) : Int := if i < k ∧ m.testBit i = true then f - (cnt (winF m q i) : Int) else 0
/-- The rooms with the first whole ones. -/
def leftB (f : Int) (m : Nat) (q : List Pc) (l : List Pl) (i : Nat) : Int := if m.testBit i = true then f - (cnt (winF m q i) : Int) - sumS (wholesT l (i : Int)) else 0
theorem leftA_zero (f : Int) (m : Nat) (q : List Pc) : arrI (leftA f m q 0) = arrI fun _ => 0 := arrI_congr fun i _ => if_neg (by omega)
theorem leftA_yes {f : Int} {m : Nat} {q : List Pc} {k : Nat} (h : m.testBit k = true) : (arrI fun i => if i = k then f - (cnt (winF m q k) : Int) else leftA f m q k i) = arrI (leftA f m q (k + 1)) := arrI_congr fun i _ => by
  unfold leftA
  by_cases e : i = k
  · subst e
    rw [if_pos rfl, if_pos ⟨by omega, h⟩]
  · rw [if_neg e]
    by_cases h1 : i < k ∧ m.testBit i = true
    · rw [if_pos h1, if_pos ⟨by omega, h1.2⟩]
    · rw [if_neg h1, if_neg (fun h2 => h1 ⟨by omega, h2.2⟩)]
theorem leftA_no {f : Int} {m : Nat} {q : List Pc} {k : Nat} (h : m.testBit k = false) : arrI (leftA f m q k) = arrI (leftA f m q (k + 1)) := arrI_congr fun i _ => by
  unfold leftA
  by_cases h1 : i < k ∧ m.testBit i = true
  · rw [if_pos h1, if_pos ⟨by omega, h1.2⟩]
  · rw [if_neg h1, if_neg (fun h2 => h1 ⟨by
      have : i ≠ k := by rintro rfl; rw [h] at h2; cases h2.2
      omega, h2.2⟩)]
theorem leftB_zero (f : Int) (m : Nat) (q : List Pc) : arrI (leftA f m q 16) = arrI (leftB f m q []) := arrI_congr fun i hi => by
  unfold leftA leftB
  by_cases h : m.testBit i = true
  · rw [if_pos ⟨hi, h⟩, if_pos h]
    show _ = _ - 0
    omega
  · rw [if_neg (fun h2 => h h2.2), if_neg h]
theorem leftB_no {f : Int} {m : Nat} {q : List Pc} {l : List Pl} {k : Nat} {x : Pl} (hx : l[k]? = some x) (h : ∀ i : Nat, i < 16 → m.testBit i = true → wholeB (i : Int) x = false) : arrI (leftB f m q (l.take k)) = arrI (leftB f m q (l.take (k + 1))) := arrI_congr fun i hi => by
  unfold leftB
  split
  · rename_i hb
    rw [wholes_no hx (h i hi hb)]
  · rfl
theorem leftB_yes {f : Int} {m : Nat} {q : List Pc} {l : List Pl} {k C : Nat} {x : Pl} (hx : l[k]? = some x) (hC : x.c = (C : Int)) (hz : x.ps.length = 0) (hb : m.testBit C = true) :
    (arrI fun i => if i = C then leftB f m q (l.take k) C - x.s else leftB f m q (l.take k) i) = arrI (leftB f m q (l.take (k + 1))) := arrI_congr fun i hi => by
  unfold leftB
  by_cases e : i = C
  · subst e
    rw [if_pos rfl, if_pos hb, if_pos hb, wholes_yes hx (by unfold wholeB; rw [decide_eq_true hz, decide_eq_true hC]; rfl), sumS_append]
    simp only [sumS]
    omega
  · rw [if_neg e]
    split
    · rw [wholes_no hx (by unfold wholeB; rw [decide_eq_false (show ¬ x.c = (i : Int) by omega), Bool.and_false])]
    · rfl
theorem leftB_room (f : Int) (m : Nat) (l : List Pl) : arrI (leftB f m (pcsOf l) l) = arrI fun i => roomN f m l (i : Int) := arrI_congr fun i hi => by
  unfold leftB roomN loadN
  rw [hasC_nat hi]
  by_cases h : m.testBit i = true
  · rw [if_pos h, if_pos h]
    unfold winF
    rw [if_pos h]
    omega
  · rw [if_neg h, if_neg h]
theorem leftB_bound {f : Int} {m : Nat} {q : List Pc} {l : List Pl} (hL : LightL l) (hS : Shares l) (hf : 0 ≤ f) (hf2 : f ≤ 64) (i : Nat) : -20000 ≤ leftB f m q l i ∧ leftB f m q l i ≤ 64 := by
  have h1 := sumS_bound (wholesT l (i : Int)) (shares_wholes hS i)
  have h2 := wholes_le l (i : Int)
  have h3 := cnt_le (winF m q i)
  have h4 := hL.len
  unfold leftB
  split <;> omega
theorem Shares.take {l : List Pl} (h : Shares l) (k : Nat) : Shares (l.take k) := fun x hx => h x (List.mem_of_mem_take hx)

set_option maxRecDepth 100000 in
set_option maxHeartbeats 4000000 in
theorem rooms_any (f : Int) (m : Nat) (v : Value) (l : List Pl) (w : World) (h : PlsAt w v l) (hL : LightL l) (hS : Shares l) (hm : m < 4294967296) (hf : 0 ≤ f) (hf2 : f ≤ 64) :
    Calls Try.prog 72 #[planA f m v] w (RetB (.agg (arrI fun i => roomN f m l (i : Int))) w) := by
  have hl : l.length ≤ 1000 := by have := hL.len; omega
  have HWN := Lib.hid (fun v w h => windows_any f m v l w h hl hL.ok hm)
  have HHC := Lib.hid (fun v c W => hasCore_any f m v c W hm)
  have HIW := Lib.hid (fun A n d x w => isWhole_any Any A n d x w)
  have HBD := Lib.hid (fun k i => leftB_bound (f := f) (m := m) (q := pcsOf l) (hL.take k) (hS.take k) hf hf2 i)
  have HRM := Lib.hid (leftB_room f m l)
  have HSH := Lib.hid hS
  unfold planA at HWN HHC
  unfold plA at HIW
  clear hL hS hm
  obtain ⟨A, cA, rfl, hlc, hcm⟩ := h.form
  have HL := Lib.hid h
  obtain ⟨w1, P, hw1, hP, hPl, hb1, hbox⟩ := box_any w #[.int .i64 f, .int .u32 m, .slice A l.length cA] 25
  obtain ⟨n, hn⟩ : ∃ n, l.length = n := ⟨_, rfl⟩
  rw [hn] at HL hlc hl hw1 hbox ⊢
  have HN := Lib.hid hn
  have HB1 := Lib.hid hb1
  have HBOX := Lib.hid hbox
  obtain ⟨r0, r1, r2⟩ := three_heads hbox
  have hb1s := Lib.hid hb1.size
  clear h hn hb1 hbox
  unfold planA
  obtain ⟨wa, R2, hwa, hNa, hNal, hba, haa⟩ := box_any w1 (arrI fun _ => 0) 55
  obtain ⟨wb, R3, hwb, hNb, hNbl, hbb, hab⟩ := box_any wa (arrI fun _ => 0) 55
  rw [arrI_zero] at hwa hwb
  have HBB := Lib.hid (HB1.out.trans ((hba.mono HB1.out.size).trans (hbb.mono (Nat.le_trans HB1.out.size hba.size))))
  have HXB := Lib.hid (keep_block (keep_block HBOX.out hba) hbb)
  have HAA := Lib.hid (keep_block haa hbb)
  have HAB := Lib.hid hab
  obtain ⟨p0, p1, p2⟩ := three_heads HXB.out
  have HO1 := Lib.hid (show w.heap.size ≤ P ∧ P < R2 ∧ R2 < R3 by omega)
  clear hba haa hbb hab
  go_enter Try.func72, Try.ntmps72
  go_wp2_with fail
  refine (HWN.out _ _ (HL.out.keep HBB.out)).mono ?_
  rintro e wc ⟨ap, rfl, _, hbc⟩
  obtain ⟨wd, R4, hwd, hNd, hNdl, hbd, had⟩ := box_any wc (arrU fun _ => 0) 54
  rw [arrU_zero] at hwd
  have HAD := Lib.hid had
  have HBD2 := Lib.hid (hbc.trans (hbd.mono hbc.size))
  have hR4 := Lib.hid (show wb.heap.size ≤ R4 by have := hbc.size; omega)
  have HO2 := Lib.hid (show R3 < R4 by have := heap_lt HAB.out; have := hbc.size; omega)
  generalize hq : pcsOf l = q at *
  clear hbc hbd had p0 p1 p2 r0 r1 r2 hw1 hP hwa hNa hwb hNb hq
  go_wp2_with (refine wpList_store_row rfl _ _ _ rfl R4 (arrU (winF m q)) rfl rfl 54 (arrU fun _ => 0) HAD.out (Try.sizeAU _) (by rw [arrU_size, arrU_size]) (arrU_one _) ?_)
  obtain ⟨w4, hw4⟩ : ∃ w4, wd.setRow R4 (arrU (winF m q)) = w4 := ⟨_, rfl⟩
  rw [hw4]
  have HB4 : Hid (Below wb.heap.size wb w4) := by rw [← hw4]; exact below_row HBD2.out hR4.out _
  have HAD4 : Hid (ArrU w4 R4 (winF m q)) := by rw [← hw4]; exact setRow_heap _ _ _ _ _ _ HAD.out
  have HX4 := Lib.hid (keep_block HXB.out HB4.out)
  have HA4 : Hid (ArrI w4 R2 fun _ => 0) := keep_block HAA.out HB4.out
  have HL4 : Hid (ArrI w4 R3 (leftA f m q 0)) := by
    show _ = some (Obj.cells (arrI (leftA f m q 0)) _ _)
    rw [leftA_zero]
    exact keep_block HAB.out HB4.out
  have HBW4 := Lib.hid (HBB.out.trans (HB4.out.mono HBB.out.size))
  have hne1 : P ≠ R3 := by have := HO1.out; omega
  have hne2 : R4 ≠ R3 := by have := HO2.out; omega
  have hne3 : R3 ≠ P := Ne.symm hne1
  have hne4 : R3 ≠ R4 := Ne.symm hne2
  clear hw4 hwd hNd
  go_loopg [6, 14] 16 (fun gg _ s14 wr => ∃ k : Nat, k ≤ 16 ∧ gg = 16 - k ∧ s14 = .int .i64 k ∧ Apart (fun b => b = R3) w4 wr ∧ ArrI wr R3 (leftA f m q k))
  case atStart => exact ⟨0, Nat.zero_le _, rfl, rfl, Apart.refl _ _, HL4.out⟩
  case round =>
    obtain ⟨k, hk, hg, rfl, hat, harr⟩ := hrel
    have HG := Lib.hid hg
    have HAT := Lib.hid hat
    have HAR := Lib.hid harr
    have HXR := Lib.hid ((hat.block P (heap_lt HX4.out) hne1).trans HX4.out)
    have HDR : Hid (ArrU wr R4 (winF m q)) := (hat.block R4 (heap_lt HAD4.out) hne2).trans HAD4.out
    have HBR := Lib.hid (HBW4.out.trans (hat.below HBW4.out.size fun b hb e => by have := HO1.out; omega))
    obtain ⟨r0, r1, r2⟩ := three_heads HXR.out
    clear hg hat harr
    by_cases hlt : k < 16
    · have hltz : (k : Int) < 16 := by omega
      have hk0 : (0 : Int) ≤ (k : Int) := by omega
      have HCC := Lib.hid (fun w => HHC.out (.slice A n cA) (k : Int) w)
      rw [hasC_nat hlt] at HCC
      cases hb : m.testBit k with
      | false =>
        rw [hb] at HCC
        have HE := Lib.hid (leftA_no (f := f) (q := q) hb)
        clear hb
        go_wp2_with fail
        refine (HCC.out _).mono ?_
        rintro e w5 ⟨rfl, hb5⟩
        have HAT5 := Lib.hid (HAT.out.trans (Apart.of_below (F := fun b => b = R3) hb5) fun _ _ e => e)
        have HAR5 : Hid (ArrI w5 R3 (leftA f m q (k + 1))) := by
          show _ = some (Obj.cells (arrI (leftA f m q (k + 1))) _ _)
          rw [← HE.out]
          exact keep_block HAR.out hb5
        clear hb5
        go_wp2_with fail
        go_roundg (16 - (k + 1))
        case measure => have := HG.out; omega
        case rel => exact ⟨k + 1, by omega, rfl, by go_num, HAT5.out, HAR5.out⟩
      | true =>
        rw [hb] at HCC
        have HE := Lib.hid (leftA_yes (f := f) (q := q) hb)
        have HML := Lib.hid (show winF m q k < 18446744073709551616 by unfold winF; rw [if_pos hb]; exact winN_lt _ _)
        have hc64 := cnt_le (winF m q k)
        have HCN := Lib.hid (fun W => count_any (winF m q k) W HML.out)
        obtain ⟨c, hc⟩ : ∃ c, cnt (winF m q k) = c := ⟨_, rfl⟩
        rw [hc] at HE hc64 HCN
        have HDC := Lib.hid (HDR.out.cell hlt)
        obtain ⟨M, hM⟩ : ∃ M, winF m q k = M := ⟨_, rfl⟩
        rw [hM] at HML HCN HDC
        have hw64 : IntKind.i64.wrap (f - (c : Int)) = f - (c : Int) := IntWalk.i64_in _ (by omega)
        clear hb hM hc
        go_wp2_with fail
        refine (HCC.out _).mono ?_
        rintro e w5 ⟨rfl, hb5⟩
        have HAT5 := Lib.hid (HAT.out.trans (Apart.of_below (F := fun b => b = R3) hb5) fun _ _ e => e)
        have HAR5 : Hid (ArrI w5 R3 (leftA f m q k)) := keep_block HAR.out hb5
        have HXR5 := Lib.hid (keep_block HXR.out hb5)
        obtain ⟨q0, q1, q2⟩ := three_heads HXR5.out
        have d0 : w5.cell? ⟨R4, k, none⟩ = some (.int .u64 M) := (hb5.cell (p := ⟨R4, k, none⟩) (heap_lt HDR.out)).trans HDC.out
        have t0 := HAR5.out.cell hlt
        have t1 := HAR5.out.frozen k
        clear hb5 r0 r1 r2
        go_wp2_with fail
        go_region_held3 (fun w' => w'.cell? ⟨P, 0, none⟩ = some (.int .i64 f) ∧ w'.cell? ⟨R4, k, none⟩ = some (.int .u64 M)) (go_keep) (first | (go_at_call 74; refine (HCN.out _).mono ?_; rintro e w' ⟨rfl, rfl⟩))
        all_goals
          go_wp2_with fail
          go_roundg (16 - (k + 1))
          case measure => have := HG.out; omega
          case rel =>
            refine ⟨k + 1, by omega, rfl, by go_num, (HAT5.out.set (p := ⟨R3, k, none⟩) (.inl rfl) _).drewN 1, ?_⟩
            have h1 := ArrI.set HAR5.out k (f - (c : Int))
            show _ = some (Obj.cells (arrI _) _ _)
            rw [← HE.out]
            exact h1
    · have hk16 : k = 16 := by omega
      subst hk16
      have HAR0 : Hid (ArrI wr R3 (leftB f m q (l.take 0))) := by
        show _ = some (Obj.cells (arrI _) _ _)
        rw [List.take_zero, ← leftB_zero]
        exact HAR.out
      obtain ⟨wo, rfl⟩ : ∃ wo : World, wo = wr := ⟨_, rfl⟩
      go_wp2_with fail
      go_loopg [8, 33] n (fun gg _ s33 wr => ∃ k : Nat, k ≤ n ∧ gg = n - k ∧ s33 = .int .i64 k ∧ Apart (fun b => b = R3) w4 wr ∧ ArrI wr R3 (leftB f m q (l.take k)))
      case atStart => exact ⟨0, Nat.zero_le _, by omega, rfl, HAT.out, HAR0.out⟩
      case round =>
        obtain ⟨k, hk, hg, rfl, hat, harr⟩ := hrel
        have HG := Lib.hid hg
        have HATK := Lib.hid hat
        have HARK := Lib.hid harr
        have HXR := Lib.hid ((hat.block P (heap_lt HX4.out) hne1).trans HX4.out)
        have HA2 : Hid (ArrI wr R2 fun _ => 0) := (hat.block R2 (heap_lt HA4.out) (by have := HO1.out; omega)).trans HA4.out
        have HB := Lib.hid (HBW4.out.trans (hat.below HBW4.out.size fun b hb e => by have := HO1.out; omega))
        have HBX := HXR
        obtain ⟨r0, r1, r2⟩ := three_heads HXR.out
        clear hg hat harr
        by_cases hlt : k < n
        · have hk0 : (0 : Int) ≤ (k : Int) := by omega
          have hltz : (k : Int) < (n : Int) := by omega
          obtain ⟨x, hx⟩ := exP_at (xs := l) (k := k) (by rw [HN.out]; exact hlt)
          obtain ⟨b, off, B, d, hA, hbl, _, hpl, hps⟩ := HL.out.at_ hx
          obtain ⟨c0, c1, c2, c3⟩ := hpl.keep (HB.out.block b hbl)
          subst hA
          simp only at c0 c1 c2 c3
          have HX := Lib.hid hx
          have HPS := Lib.hid hps
          clear hx hps hpl
          obtain ⟨w2, N, hw2, hN, hNl, hb2, hxbox⟩ := box_any wr #[.int .i64 x.u, .int .i64 x.s, .int .i64 x.c, .slice B x.ps.length d] 38
          have HB2 := Lib.hid hb2
          have HXB := Lib.hid hxbox
          obtain ⟨x0, x1, x2, x3⟩ := four_heads hxbox
          obtain ⟨p0, p1, p2⟩ := three_heads (keep_block HBX.out hb2)
          clear hb2 hxbox
          have HIC := Lib.hid (fun w => HIW.out B x.ps.length d x w)
          have hxs := HSH.out x (List.mem_of_getElem? HX.out)
          have HAT2 := Lib.hid (HATK.out.trans (Apart.of_below (F := fun b => b = R3) HB2.out) fun _ _ e => e)
          have HAR2 : Hid (ArrI w2 R3 (leftB f m q (l.take k))) := keep_block HARK.out HB2.out
          have HXR2 := Lib.hid (keep_block HXR.out HB2.out)
          cases hz : decide (x.ps.length = 0) with
          | false =>
            rw [hz] at HIC
            have HE := Lib.hid (leftB_no (f := f) (m := m) (q := q) HX.out (fun i _ _ => by unfold wholeB; rw [hz]; rfl))
            clear hz
            go_wp2_with fail
            refine (HIC.out _).mono ?_
            rintro e w5 ⟨rfl, hb5⟩
            have HAT5 := Lib.hid (HAT2.out.trans (Apart.of_below (F := fun b => b = R3) hb5) fun _ _ e => e)
            have HAR5 : Hid (ArrI w5 R3 (leftB f m q (l.take (k + 1)))) := by
              show _ = some (Obj.cells (arrI _) _ _)
              rw [← HE.out]
              exact keep_block HAR2.out hb5
            clear hb5
            go_wp2_with fail
            go_roundg (n - (k + 1))
            case measure => have := HG.out; omega
            case rel => exact ⟨k + 1, by omega, rfl, by go_num, HAT5.out, HAR5.out⟩
          | true =>
            rw [hz] at HIC
            have hz0 := of_decide_eq_true hz
            have HCC := Lib.hid (fun w => HHC.out (.slice (some ⟨b, off, none⟩) n cA) x.c w)
            cases hh : hasC m x.c with
            | false =>
              rw [hh] at HCC
              have HE := Lib.hid (leftB_no (f := f) (m := m) (q := q) HX.out (fun i hi hbi => by
                have h0 : decide (x.c = (i : Int)) = false := decide_eq_false (fun e => by rw [e, hasC_nat hi, hbi] at hh; cases hh)
                unfold wholeB
                rw [h0, Bool.and_false]))
              clear hz hz0 hh
              go_wp2_with fail
              refine (HIC.out _).mono ?_
              rintro e w5 ⟨rfl, hb5⟩
              have HAT5 := Lib.hid (HAT2.out.trans (Apart.of_below (F := fun b => b = R3) hb5) fun _ _ e => e)
              have HAR5 : Hid (ArrI w5 R3 (leftB f m q (l.take k))) := keep_block HAR2.out hb5
              obtain ⟨q0, q1, q2⟩ := three_heads (keep_block HXR2.out hb5)
              obtain ⟨y0, y1, y2, y3⟩ := four_heads (keep_block HXB.out hb5)
              clear hb5 x0 x1 x2 x3 p0 p1 p2 r0 r1 r2 c0 c1 c2 c3 hw2 hN
              go_wp2_with fail
              refine (HCC.out _).mono ?_
              rintro e w6 ⟨rfl, hb6⟩
              have HAT6 := Lib.hid (HAT5.out.trans (Apart.of_below (F := fun b => b = R3) hb6) fun _ _ e => e)
              have HAR6 : Hid (ArrI w6 R3 (leftB f m q (l.take (k + 1)))) := by
                show _ = some (Obj.cells (arrI _) _ _)
                rw [← HE.out]
                exact keep_block HAR5.out hb6
              clear hb6
              go_wp2_with fail
              go_roundg (n - (k + 1))
              case measure => have := HG.out; omega
              case rel => exact ⟨k + 1, by omega, rfl, by go_num, HAT6.out, HAR6.out⟩
            | true =>
              rw [hh] at HCC
              obtain ⟨xu, xs, xc, ps⟩ := x
              simp only at *
              obtain ⟨C, rfl⟩ : ∃ C : Nat, xc = (C : Int) := ⟨xc.toNat, by have := hasC_range hh; omega⟩
              have hC : C < 16 := by have := hasC_range hh; omega
              have hCz : (C : Int) < 16 := by omega
              have hC0 : (0 : Int) ≤ (C : Int) := by omega
              have HE := Lib.hid (leftB_yes (f := f) (q := q) HX.out rfl hz0 (show m.testBit C = true by rw [← hasC_nat hC]; exact hh))
              simp only at HE
              have hbd := HBD.out k C
              obtain ⟨D, hD⟩ : ∃ D, leftB f m q (l.take k) C = D := ⟨_, rfl⟩
              rw [hD] at HE hbd
              have HD := Lib.hid hD
              obtain ⟨hd1, hd2⟩ := hbd
              obtain ⟨hs1, hs2⟩ := hxs
              clear hz hz0 hh hD
              go_wp2_with fail
              refine (HIC.out _).mono ?_
              rintro e w5 ⟨rfl, hb5⟩
              have HAT5 := Lib.hid (HAT2.out.trans (Apart.of_below (F := fun b => b = R3) hb5) fun _ _ e => e)
              have HAR5 : Hid (ArrI w5 R3 (leftB f m q (l.take k))) := keep_block HAR2.out hb5
              have HXB5 := Lib.hid (keep_block HXB.out hb5)
              obtain ⟨q0, q1, q2⟩ := three_heads (keep_block HXR2.out hb5)
              obtain ⟨y0, y1, y2, y3⟩ := four_heads HXB5.out
              clear hb5 x0 x1 x2 x3 p0 p1 p2 r0 r1 r2 c0 c1 c2 c3 hw2 hN
              go_wp2_with fail
              refine (HCC.out _).mono ?_
              rintro e w6 ⟨rfl, hb6⟩
              have HAT6 := Lib.hid (HAT5.out.trans (Apart.of_below (F := fun b => b = R3) hb6) fun _ _ e => e)
              have HAR6 : Hid (ArrI w6 R3 (leftB f m q (l.take k))) := keep_block HAR5.out hb6
              obtain ⟨z0, z1, z2, z3⟩ := four_heads (keep_block HXB5.out hb6)
              have t0 : w6.cell? ⟨R3, C, none⟩ = some (.int .i64 D) := by rw [← HD.out]; exact HAR6.out.cell hC
              have t1 := HAR6.out.frozen C
              clear hb6 y0 y1 y2 y3 q0 q1 q2
              go_wp2_with fail
              go_region
              go_wp2_with fail
              go_roundg (n - (k + 1))
              case measure => have := HG.out; omega
              case rel =>
                refine ⟨k + 1, by omega, rfl, by go_num, (HAT6.out.set (p := ⟨R3, C, none⟩) (.inl rfl) _).drewN 1, ?_⟩
                have h1 := ArrI.set HAR6.out C (D - xs)
                show _ = some (Obj.cells (arrI _) _ _)
                rw [← HE.out]
                exact h1
        · have hltz : ¬ (k : Int) < (n : Int) := by omega
          have HE : Hid (ArrI wr R3 fun i => roomN f m l (i : Int)) := by
            have h := HARK.out
            rw [List.take_of_length_le (by rw [HN.out]; omega)] at h
            show _ = some (Obj.cells (arrI _) _ _)
            rw [← HRM.out]
            exact h
          go_wp2_with (first
            | (refine wpList_load_row rfl _ _ rfl R3 rfl 55 (arrI fun i => roomN f m l (i : Int)) (0, 0) _ HE.out Try.underlying55 rfl (Try.sizeAI _) ?_)
            | (refine wpList_store_row rfl _ _ _ rfl R2 (arrI fun i => roomN f m l (i : Int)) rfl rfl 55 (arrI fun _ => 0) HA2.out (Try.sizeAI _) (by rw [arrI_size, arrI_size]) (arrI_one _) ?_))
          refine bodyPost_ret (v := .agg (arrI fun i => roomN f m l (i : Int))) (results_cell_row rfl _ _ R2 _ _ _ _ rfl (setRow_heap _ _ _ _ _ _ HA2.out) Try.underlying55 rfl (Try.sizeAI _)) rfl ?_
          exact ⟨rfl, below_row HB.out (by have := HO1.out; omega) _⟩
end Go.Proofs.Ytkgkanmccaodfaa

/-
  The document's apart: at no tick of a core are there two.
  Conditions: the slice reads as places; the numbers are of their kinds.
-/
set_option linter.unusedVariables false
namespace Go.Proofs.Ytkgkanmccaodfaa
open Go.RowKit Go.Sort

def ApartD (q : List Pc) : Prop := ∀ c : Nat, c < 16 → ∀ t, t < 64 → nOn q (c : Int) t ≤ 1
theorem pcs_len : ∀ (l : List Pl), (∀ x ∈ l, x.ps.length ≤ 1000) → (pcsOf l).length ≤ 1000 * l.length
  | [], _ => Nat.le_refl _
  | x :: l, h => by
    have h1 := h x (by simp)
    have h2 := pcs_len l fun y hy => h y (by simp [hy])
    rw [pcsOf_cons, List.length_append, List.length_cons]
    omega
theorem nOn_bound {l : List Pl} (hL : LightL l) (k : Nat) (c : Int) (t : Nat) : nOn (pcsOf (l.take k)) c t ≤ 1000000 := by
  have h1 := pcs_len (l.take k) fun x hx => (hL.ok x (List.mem_of_mem_take hx)).2
  have h2 := hL.len
  have h3 : nOn (pcsOf (l.take k)) c t ≤ (pcsOf (l.take k)).length := List.countP_le_length
  rw [List.length_take] at h1
  omega

set_option maxRecDepth 100000 in
set_option maxHeartbeats 4000000 in
theorem apart_any (f : Int) (m : Nat) (v : Value) (l : List Pl) (w : World) (h : PlsAt w v l) (hL : LightL l) :
    Calls Try.prog 23 #[planA f m v] w (RetIff (ApartD (pcsOf l)) w) := by
  have HO := Lib.hid hL.ok
  have HNB := Lib.hid (fun k c t => nOn_bound hL k c t)
  have hl : l.length ≤ 1000 := by have := hL.len; omega
  clear hL
  obtain ⟨A, cA, rfl, hlc, hcm⟩ := h.form
  have HL := Lib.hid h
  obtain ⟨w1, P, hw1, hP, hPl, hb1, hbox⟩ := box_any w #[.int .i64 f, .int .u32 m, .slice A l.length cA] 25
  obtain ⟨n, hn⟩ : ∃ n, l.length = n := ⟨_, rfl⟩
  rw [hn] at HL hlc hl hw1 hbox ⊢
  have HN := Lib.hid hn
  have HB1 := Lib.hid hb1
  have HBOX := Lib.hid hbox
  obtain ⟨r0, r1, r2⟩ := three_heads hbox
  clear h hn hb1 hbox
  unfold planA
  go_enter Try.func23, Try.ntmps23
  go_wp2_with fail
  clear hw1 hP r0 r1 r2
  go_loopg [3, 4, 5, 6] 16 (fun gg s3 _ _ _ wr => ∃ c : Nat, c ≤ 16 ∧ gg = 16 - c ∧ s3 = .int .i64 c ∧ Hid (∀ c' : Nat, c' < c → ∀ t, t < 64 → nOn (pcsOf l) (c' : Int) t ≤ 1) ∧ Below w1.heap.size w1 wr)
  case atStart => exact ⟨0, Nat.zero_le _, by omega, rfl, fun c' h => absurd h (Nat.not_lt_zero _), Below.refl _ _⟩
  case round =>
    obtain ⟨c, hc, hgc, rfl, HC, hbc⟩ := hrel
    have HGC := Lib.hid hgc
    have HBC := Lib.hid hbc
    obtain ⟨wo, rfl⟩ : ∃ wo : World, wo = wr := ⟨_, rfl⟩
    clear hgc hbc
    by_cases hlc : c < 16
    · have hlcz : (c : Int) < 16 := by omega
      go_wp2_with fail
      go_loopg [4, 5, 6] 64 (fun gg s4 _ _ wr => ∃ t : Nat, t ≤ 64 ∧ gg = 64 - t ∧ s4 = .int .i64 t ∧ Hid (∀ t', t' < t → nOn (pcsOf l) (c : Int) t' ≤ 1) ∧ Below w1.heap.size w1 wr)
      case atStart => exact ⟨0, Nat.zero_le _, by omega, rfl, fun t' h => absurd h (Nat.not_lt_zero _), HBC.out⟩
      case round =>
        obtain ⟨t, ht, hgt, rfl, HT, hbt⟩ := hrel
        have HGT := Lib.hid hgt
        have HBT := Lib.hid hbt
        obtain ⟨wp, rfl⟩ : ∃ wp : World, wp = wr := ⟨_, rfl⟩
        clear hgt hbt
        by_cases hlT : t < 64
        · have hlTz : (t : Int) < 64 := by omega
          go_wp2_with fail
          go_loopg [5, 6] n (fun gg s5 s6 wr => ∃ k q : Nat, k ≤ n ∧ gg = n - k ∧ s6 = .int .i64 k ∧ s5 = .int .i64 q ∧ Hid (q = nOn (pcsOf (l.take k)) (c : Int) t) ∧ Below w1.heap.size w1 wr)
          case atStart => exact ⟨0, 0, Nat.zero_le _, by omega, rfl, rfl, rfl, HBT.out⟩
          case round =>
            obtain ⟨k, q, hk, hg, rfl, rfl, HQ, hbw⟩ := hrel
            have hqb : q ≤ 1000000 := by rw [HQ]; exact HNB.out _ _ _
            have HBW := Lib.hid hbw
            have HB := Lib.hid (HB1.out.trans (hbw.mono HB1.out.size))
            have HG := Lib.hid hg
            have hPl2 : P < wr.heap.size := Nat.lt_of_lt_of_le hPl hbw.size
            have HBX := Lib.hid ((hbw.block P hPl).trans HBOX.out)
            obtain ⟨r0, r1, r2⟩ := three_heads HBX.out
            have HLR := Lib.hid (HL.out.keep HB.out)
            clear hbw hg
            by_cases hlt : k < n
            · have hk0 : (0 : Int) ≤ (k : Int) := by omega
              have hltz : (k : Int) < (n : Int) := by omega
              obtain ⟨x, hx⟩ := exP_at (xs := l) (k := k) (by rw [HN.out]; exact hlt)
              obtain ⟨b, off, B, d, hA, hbl, _, ⟨c0, c1, c2, c3⟩, hps⟩ := HLR.out.at_ hx
              subst hA
              simp only at c0 c1 c2 c3
              have HX := Lib.hid hx
              have HPS := Lib.hid hps
              clear hx hps
              have hxo := HO.out x (List.mem_of_getElem? HX.out)
              have HAT := Lib.hid (at_any (.slice B x.ps.length d) x (c : Int) t wr HPS.out.any hxo.2 hxo.1.2.2.2 hlT)
              rw [nAt_on (by omega)] at HAT
              unfold plA at HAT
              have hzb : nOn x.ps (c : Int) t ≤ 1000 := Nat.le_trans List.countP_le_length hxo.2
              have HPT := Lib.hid (pcs_take HX.out)
              generalize hz : nOn x.ps (c : Int) t = z at *
              have HQ2 : Hid (q + z = nOn (pcsOf (l.take (k + 1))) (c : Int) t) := by
                show _ = _
                rw [HPT.out, nOn_append, hz, ← HQ]
              clear hz hxo
              go_wp2_with fail
              refine HAT.out.mono ?_
              rintro e w3 ⟨rfl, hb3⟩
              have HB3 := Lib.hid (HBW.out.trans (hb3.mono HBW.out.size))
              clear hb3
              go_wp2_with fail
              go_roundg (n - (k + 1))
              case measure => have := HG.out; omega
              case rel => exact ⟨k + 1, q + z, by omega, rfl, by go_num, by go_num, HQ2, HB3.out⟩
            · have hltz : ¬ (k : Int) < (n : Int) := by omega
              have HQE : Hid (q = nOn (pcsOf l) (c : Int) t) := by
                have h : q = nOn (pcsOf (l.take k)) (c : Int) t := HQ
                rwa [List.take_of_length_le (by rw [HN.out]; omega)] at h
              by_cases hq1 : 1 < q
              · have hq2 : (1 : Int) < (q : Int) := by omega
                have HNO := Lib.hid (show ¬ ApartD (pcsOf l) from fun h => by have := h c hlc t hlT; rw [← HQE] at this; omega)
                go_wp2_with fail
                go_ret
                exact RetIff.no HNO.out HB.out
              · have hq2 : decide ((1 : Int) < (q : Int)) = false := decide_eq_false (by omega)
                have hq3 : decide (1 < q) = false := decide_eq_false hq1
                have HTN : Hid (∀ t', t' < t + 1 → nOn (pcsOf l) (c : Int) t' ≤ 1) := fun t' h => by
                  by_cases e : t' = t
                  · subst e; rw [← HQE]; omega
                  · exact HT t' (by omega)
                go_wp2_with fail
                go_roundg (64 - (t + 1))
                case measure => have := HGT.out; omega
                case rel => exact ⟨t + 1, by omega, rfl, by go_num, HTN, HBW.out⟩
        · have hlTz : ¬ (t : Int) < 64 := by omega
          have HCN : Hid (∀ c' : Nat, c' < c + 1 → ∀ t, t < 64 → nOn (pcsOf l) (c' : Int) t ≤ 1) := fun c' h t' ht' => by
            by_cases e : c' = c
            · subst e; exact HT t' (by omega)
            · exact HC c' (by omega) t' ht'
          go_wp2_with fail
          go_roundg (16 - (c + 1))
          case measure => have := HGC.out; omega
          case rel => exact ⟨c + 1, by omega, rfl, by go_num, HCN, HBT.out⟩
    · have hlcz : ¬ (c : Int) < 16 := by omega
      have HYE := Lib.hid (show ApartD (pcsOf l) from fun c' h => HC c' (by omega))
      have HBE := Lib.hid (HB1.out.trans (HBC.out.mono HB1.out.size))
      go_wp2
      go_ret
      exact RetIff.yes HYE.out HBE.out
end Go.Proofs.Ytkgkanmccaodfaa

/-
  Units: Unit, Kind, the document's Is and Group; a sum, or that it runs over.
  Conditions: the arguments are ints.
-/
set_option linter.unusedVariables false
namespace Go.Proofs.Ytkgkanmccaodfaa
open Go.RowKit

theorem and_dec (p q : Prop) [Decidable p] [Decidable q] : (decide p && decide q) = decide (p ∧ q) := by simp

theorem isTask_any (u : Int) (W : World) : Calls Try.prog 89 #[.int .i64 u] W (Ret (.bool (isTaskB u)) W) := by
  unfold isTaskB
  by_cases h1 : 1 ≤ u
  · have g1 : decide (1 ≤ u) = true := decide_eq_true h1
    rw [g1, Bool.true_and]
    go_enter Try.func89, Try.ntmps89
    go_wp2
    go_ret
    exact ⟨by simp_all, rfl⟩
  · have g1 : decide (1 ≤ u) = false := decide_eq_false h1
    rw [g1, Bool.false_and]
    go_enter Try.func89, Try.ntmps89
    go_wp2
    go_ret
    exact ⟨by simp_all, rfl⟩
theorem isGroup_any (u : Int) (W : World) : Calls Try.prog 90 #[.int .i64 u] W (Ret (.bool (isGroupB u)) W) := by
  unfold isGroupB
  by_cases h1 : 1 ≤ u
  · have g1 : decide (1 ≤ u) = true := decide_eq_true h1
    rw [g1, Bool.true_and]
    go_enter Try.func90, Try.ntmps90
    go_wp2
    go_ret
    exact ⟨by simp_all, rfl⟩
  · have g1 : decide (1 ≤ u) = false := decide_eq_false h1
    rw [g1, Bool.false_and]
    go_enter Try.func90, Try.ntmps90
    go_wp2
    go_ret
    exact ⟨by simp_all, rfl⟩

/-- What Unit answers: the unit (0: none), the error. -/
def unitU (id : Int) (g : Bool) : Int := if g then (if isGroupB id then id + 1000 else 0) else (if isTaskB id then id else 0)
def unitE (id : Int) (g : Bool) : Int := if g then (if isGroupB id then 0 else 20) else (if isTaskB id then 0 else 20)
/-- What Kind answers. -/
def kindI (u : Int) : Int := if isTaskB u then u else if isU u then u - 1000 else 0
def kindG (u : Int) : Bool := !isTaskB u && isU u
theorem isU_task {u : Int} (h : isTaskB u = true) : isU u = true := by unfold isTaskB at h; unfold isU; rw [h]; rfl
theorem group_wrap {u : Int} (h1 : -9223372036854775808 ≤ u) (h2 : u ≤ 9223372036854775807) (ht : isTaskB u = false) : isGroupB (wrap64 (u - 1000)) = isU u := by
  unfold isTaskB at ht
  unfold isGroupB isU
  rw [ht, Bool.false_or]
  unfold wrap64
  rw [Bool.eq_iff_iff]
  simp
  omega
theorem kind_any (u : Int) (h1 : -9223372036854775808 ≤ u) (h2 : u ≤ 9223372036854775807) (W : World) :
    Calls Try.prog 79 #[.int .i64 u] W (Ret (.tuple #[.int .i64 (kindI u), .bool (kindG u), .bool (isU u)]) W) := by
  have HG := Lib.hid (fun x W => isGroup_any x W)
  have HT := Lib.hid (fun W => isTask_any u W)
  unfold kindI kindG
  cases ht : isTaskB u
  · rw [ht] at HT
    have hg := group_wrap h1 h2 ht
    simp only [Bool.false_eq_true, if_false, Bool.not_false, Bool.true_and]
    cases hu : isU u
    · rw [hu] at hg
      have HGN := Lib.hid (fun W => by have := HG.out (wrap64 (u - 1000)) W; rw [hg] at this; exact this)
      simp only [Bool.false_eq_true, if_false]
      clear h1 h2 ht hg hu HG
      go_enter Try.func79, Try.ntmps79
      go_wp2_with (first
        | (go_at_call 89; refine (HT.out _).mono ?_; rintro e w' ⟨rfl, rfl⟩)
        | (go_at_call 90; refine (HGN.out _).mono ?_; rintro e w' ⟨rfl, rfl⟩))
      go_returns
      exact ⟨rfl, rfl⟩
    · rw [hu] at hg
      have HGN := Lib.hid (fun W => by have := HG.out (wrap64 (u - 1000)) W; rw [hg] at this; exact this)
      have hw : wrap64 (u - 1000) = u - 1000 := by
        unfold isTaskB at ht
        unfold isU at hu
        rw [ht] at hu
        simp at hu
        unfold wrap64
        omega
      simp only [if_true]
      rw [hw] at HGN
      clear h1 h2 ht hg hu HG
      go_enter Try.func79, Try.ntmps79
      go_wp2_with (first
        | (go_at_call 89; refine (HT.out _).mono ?_; rintro e w' ⟨rfl, rfl⟩)
        | (go_at_call 90; refine (HGN.out _).mono ?_; rintro e w' ⟨rfl, rfl⟩))
      go_returns
      exact ⟨rfl, rfl⟩
  · rw [ht] at HT
    rw [isU_task ht]
    simp only [if_true, Bool.not_true, Bool.false_and]
    clear h1 h2 ht HG
    go_enter Try.func79, Try.ntmps79
    go_wp2_with (go_at_call 89; refine (HT.out _).mono ?_; rintro e w' ⟨rfl, rfl⟩)
    go_returns
    exact ⟨rfl, rfl⟩

theorem is_any (u : Int) (W : World) : Calls Try.prog 41 #[.int .i64 u] W (Ret (.bool (isU u)) W) := by
  obtain ⟨r, hr⟩ : ∃ r, isU u = r := ⟨_, rfl⟩
  rw [hr]
  by_cases a1 : 1 ≤ u <;> by_cases a2 : u ≤ 200 <;> by_cases a3 : 1001 ≤ u <;> by_cases a4 : u ≤ 1040
  all_goals first
    | (exfalso; omega)
    | (have g1 : decide (1 ≤ u) = true := decide_eq_true a1
       have g2 : decide (u ≤ 200) = true := decide_eq_true a2
       obtain rfl : r = true := (by rw [← hr]; unfold isU; rw [g1, g2]; rfl)
       clear hr
       go_enter Try.func41, Try.ntmps41
       go_wp2
       go_ret
       exact ⟨by simp_all, rfl⟩)
    | (have g1 : decide (1 ≤ u) = true := decide_eq_true a1
       have g2 : decide (u ≤ 200) = false := decide_eq_false a2
       have g3 : decide (1001 ≤ u) = true := decide_eq_true a3
       have g4 : decide (u ≤ 1040) = true := decide_eq_true a4
       obtain rfl : r = true := (by rw [← hr]; unfold isU; rw [g1, g2, g3, g4]; rfl)
       clear hr
       go_enter Try.func41, Try.ntmps41
       go_wp2
       go_ret
       exact ⟨by simp_all, rfl⟩)
    | (have g1 : decide (1 ≤ u) = true := decide_eq_true a1
       have g2 : decide (u ≤ 200) = false := decide_eq_false a2
       have g3 : decide (1001 ≤ u) = true := decide_eq_true a3
       have g4 : decide (u ≤ 1040) = false := decide_eq_false a4
       obtain rfl : r = false := (by rw [← hr]; unfold isU; rw [g1, g2, g3, g4]; rfl)
       clear hr
       go_enter Try.func41, Try.ntmps41
       go_wp2
       go_ret
       exact ⟨by simp_all, rfl⟩)
    | (have g1 : decide (1 ≤ u) = true := decide_eq_true a1
       have g2 : decide (u ≤ 200) = false := decide_eq_false a2
       have g3 : decide (1001 ≤ u) = false := decide_eq_false a3
       obtain rfl : r = false := (by rw [← hr]; unfold isU; rw [g1, g2, g3]; rfl)
       clear hr
       go_enter Try.func41, Try.ntmps41
       go_wp2
       go_ret
       exact ⟨by simp_all, rfl⟩)
    | (have g1 : decide (1 ≤ u) = false := decide_eq_false a1
       have g3 : decide (1001 ≤ u) = false := decide_eq_false a3
       obtain rfl : r = false := (by rw [← hr]; unfold isU; rw [g1, g3]; rfl)
       clear hr
       go_enter Try.func41, Try.ntmps41
       go_wp2
       go_ret
       exact ⟨by simp_all, rfl⟩)
end Go.Proofs.Ytkgkanmccaodfaa
