/-
  hasUnit and Check of the program; Check of the document.
  Conditions: the slices read as wants of ints.
-/
import Derived.Test.YtpfpojehcjmfnaaGreatT09
import Derived.Test.YtpfpojehcjmfnaaGreatT07
import Derived.Test.YtpfpojehcjmfnaaGreatT02

/-
  rightPlaces of the program.
  Conditions: the slice reads as places; the numbers are of their kinds.
-/
set_option linter.unusedVariables false
namespace Go.Proofs.YtpfpojehcjmfnaaGreat
open Go.RowKit Go.Sort

theorem ws_whole {f : Int} {m : Nat} {x : Pl} (h : x.ps.length = 0) : WS f m x ↔ hasC m x.c = true :=
  have e : x.ps = [] := List.eq_nil_of_length_eq_zero h
  ⟨fun hw => hw.whole e, fun hh => ⟨fun _ => hh, fun hne => absurd e hne⟩⟩
theorem ws_split {f : Int} {m : Nat} {x : Pl} (h : x.ps.length ≠ 0) : WS f m x ↔ SplitOk f m x :=
  have e : x.ps ≠ [] := fun e => h (by rw [e]; rfl)
  ⟨fun hw => hw.split e, fun hh => ⟨fun e' => absurd e' e, fun _ => hh⟩⟩

set_option maxRecDepth 100000 in
set_option maxHeartbeats 4000000 in
theorem rightPlaces_any (f : Int) (m : Nat) (v : Value) (l : List Pl) (w : World) (h : PlsAt w v l) (hL : LightL l) (hm : m < 4294967296) (hf : 2 ≤ f) (hf2 : f ≤ 64) :
    Calls Tryz.prog 98 #[planA f m v] w (RetIff (∀ x ∈ l, WS f m x) w) := by
  have HLL := Lib.hid hL
  have HM := Lib.hid hm
  have HF := Lib.hid (And.intro hf hf2)
  have hl : l.length ≤ 1000 := by have := hL.len; omega
  have HHC := Lib.hid (fun v c W => hasCore_any f m v c W hm)
  have HIW := Lib.hid (fun A n d x w => isWhole_any Any A n d x w)
  unfold planA at HHC
  unfold plA at HIW
  clear hL hm hf hf2
  obtain ⟨A, cA, rfl, hlc, hcm⟩ := h.form
  have HL := Lib.hid h
  obtain ⟨w1, P, hw1, hP, hPl, hb1, hbox⟩ := box_any w #[.int .i64 f, .int .u32 m, .slice A l.length cA] 26
  obtain ⟨n, hn⟩ : ∃ n, l.length = n := ⟨_, rfl⟩
  rw [hn] at HL hlc hl hw1 hbox ⊢
  have HN := Lib.hid hn
  have HB1 := Lib.hid hb1
  have HBOX := Lib.hid hbox
  obtain ⟨r0, r1, r2⟩ := three_heads hbox
  clear h hn hb1 hbox
  unfold planA
  go_enter Tryz.func98, Tryz.ntmps98
  go_wp2_with fail
  clear hw1 hP r0 r1 r2
  go_loopg [4, 8] n (fun gg _ s8 wr => ∃ k : Nat, k ≤ n ∧ gg = n - k ∧ s8 = .int .i64 k ∧ Hid (∀ (i : Nat) (x : Pl), i < k → l[i]? = some x → WS f m x) ∧ Below w1.heap.size w1 wr)
  case atStart => exact ⟨0, Nat.zero_le _, by omega, rfl, fun i x h => absurd h (Nat.not_lt_zero _), Below.refl _ _⟩
  case round =>
    obtain ⟨k, hk, hg, rfl, HW, hbw⟩ := hrel
    have HBW := Lib.hid hbw
    have HB := Lib.hid (HB1.out.trans (hbw.mono HB1.out.size))
    have HG := Lib.hid hg
    have hPl2 : P < wr.heap.size := Nat.lt_of_lt_of_le hPl hbw.size
    have HBX := Lib.hid ((hbw.block P hPl).trans HBOX.out)
    obtain ⟨r0, r1, r2⟩ := three_heads HBX.out
    have HLR := Lib.hid (HL.out.keep HB.out)
    clear hbw hg
    by_cases hlt : k < n
    · have hk0 : (0 : Int) ≤ (k : Int) := by omega
      have hltz : (k : Int) < (n : Int) := by omega
      obtain ⟨x, hx⟩ := exP_at (xs := l) (k := k) (by rw [HN.out]; exact hlt)
      obtain ⟨b, off, B, d, hA, hbl, _, ⟨c0, c1, c2, c3⟩, hps⟩ := HLR.out.at_ hx
      subst hA
      simp only at c0 c1 c2 c3
      have HX := Lib.hid hx
      have HPS := Lib.hid hps
      clear hx hps
      obtain ⟨w2, N, hw2, hN, hNl, hb2, hxbox⟩ := box_any wr #[.int .i64 x.u, .int .i64 x.s, .int .i64 x.c, .slice B x.ps.length d] 48
      have HB2 := Lib.hid hb2
      have HXB := Lib.hid hxbox
      obtain ⟨x0, x1, x2, x3⟩ := four_heads hxbox
      obtain ⟨p0, p1, p2⟩ := three_heads (keep_block HBX.out hb2)
      clear hb2 hxbox
      have hxo := HLL.out.ok x (List.mem_of_getElem? HX.out)
      have HBS := Lib.hid (HBW.out.trans (HB2.out.mono HBW.out.size))
      have HBX2 := Lib.hid (keep_block HBX.out HB2.out)
      have HIC := Lib.hid (fun w => HIW.out B x.ps.length d x w)
      have HCC := Lib.hid (fun w => HHC.out (.slice (some ⟨b, off, none⟩) n cA) x.c w)
      have HXA := Lib.hid (show (∀ x ∈ l, WS f m x) → WS f m x from fun h => h x (List.mem_of_getElem? HX.out))
      have HWN : Hid (WS f m x → ∀ (i : Nat) (x : Pl), i < k + 1 → l[i]? = some x → WS f m x) := fun hws i y hi hy => by
        by_cases e : i = k
        · subst e; rw [HX.out] at hy; cases hy; exact hws
        · exact HW i y (by omega) hy
      have HSP := Lib.hid (fun W h => calls_iff (rightSplit_any f m (.slice (some ⟨b, off, none⟩) n cA) (.slice B x.ps.length d) x W h hxo.1 hxo.2 HM.out HF.out.1 HF.out.2))
      unfold planA plA at HSP
      have HWW := Lib.hid (fun h => ws_whole (f := f) (m := m) (x := x) h)
      have HWS := Lib.hid (fun h => ws_split (f := f) (m := m) (x := x) h)
      clear hxo
      cases hz : decide (x.ps.length = 0) with
      | true =>
        rw [hz] at HIC
        have HWI := Lib.hid (HWW.out (of_decide_eq_true hz))
        clear hz
        cases hh : hasC m x.c with
        | false =>
          rw [hh] at HCC HWI
          have HNO := Lib.hid (show ¬ (∀ x ∈ l, WS f m x) from fun h => by have := HWI.out.1 (HXA.out h); cases this)
          clear hh
          go_wp2_with fail
          refine (HIC.out _).mono ?_
          rintro e w3 ⟨rfl, hb3⟩
          have HB3 := Lib.hid (HBS.out.trans (hb3.mono HBS.out.size))
          obtain ⟨y0, y1, y2, y3⟩ := four_heads (keep_block HXB.out hb3)
          obtain ⟨q0, q1, q2⟩ := three_heads (keep_block HBX2.out hb3)
          clear hb3 x0 x1 x2 x3 p0 p1 p2
          go_wp2_with fail
          refine (HCC.out _).mono ?_
          rintro e w4 ⟨rfl, hb4⟩
          have HB4 := Lib.hid (HB1.out.trans ((HB3.out.trans (hb4.mono HB3.out.size)).mono HB1.out.size))
          clear hb4
          go_wp2_with fail
          go_ret
          exact RetIff.no HNO.out HB4.out
        | true =>
          rw [hh] at HCC HWI
          have HYES : Hid (∀ (i : Nat) (x : Pl), i < k + 1 → l[i]? = some x → WS f m x) := HWN (HWI.out.2 rfl)
          clear hh
          go_wp2_with fail
          refine (HIC.out _).mono ?_
          rintro e w3 ⟨rfl, hb3⟩
          have HB3 := Lib.hid (HBS.out.trans (hb3.mono HBS.out.size))
          have HXB3 := Lib.hid (keep_block HXB.out hb3)
          obtain ⟨y0, y1, y2, y3⟩ := four_heads HXB3.out
          obtain ⟨q0, q1, q2⟩ := three_heads (keep_block HBX2.out hb3)
          clear hb3 x0 x1 x2 x3 p0 p1 p2
          go_wp2_with fail
          refine (HCC.out _).mono ?_
          rintro e w4 ⟨rfl, hb4⟩
          have HB4 := Lib.hid (HB3.out.trans (hb4.mono HB3.out.size))
          obtain ⟨z0, z1, z2, z3⟩ := four_heads (keep_block HXB3.out hb4)
          clear hb4 y0 y1 y2 y3
          go_wp2_with fail
          refine (HIC.out _).mono ?_
          rintro e w5 ⟨rfl, hb5⟩
          have HB5 := Lib.hid (HB4.out.trans (hb5.mono HB4.out.size))
          clear hb5
          go_wp2_with fail
          go_roundg (n - (k + 1))
          case measure => have := HG.out; omega
          case rel => exact ⟨k + 1, by omega, rfl, by go_num, HYES, HB5.out⟩
      | false =>
        rw [hz] at HIC
        have HWI := Lib.hid (HWS.out (of_decide_eq_false hz))
        clear hz
        go_wp2_with fail
        refine (HIC.out _).mono ?_
        rintro e w3 ⟨rfl, hb3⟩
        have HB3 := Lib.hid (HBS.out.trans (hb3.mono HBS.out.size))
        have HXB3 := Lib.hid (keep_block HXB.out hb3)
        have HBX3 := Lib.hid (keep_block HBX2.out hb3)
        have HPS3 := Lib.hid ((HPS.out.keep HB2.out).keep hb3)
        obtain ⟨y0, y1, y2, y3⟩ := four_heads HXB3.out
        clear hb3 x0 x1 x2 x3 p0 p1 p2
        go_wp2_with fail
        refine (HIC.out _).mono ?_
        rintro e w4 ⟨rfl, hb4⟩
        have HB4 := Lib.hid (HB3.out.trans (hb4.mono HB3.out.size))
        have HBO4 := Lib.hid (HB1.out.trans (HB4.out.mono HB1.out.size))
        obtain ⟨z0, z1, z2, z3⟩ := four_heads (keep_block HXB3.out hb4)
        obtain ⟨q0, q1, q2⟩ := three_heads (keep_block HBX3.out hb4)
        have HPS4 := Lib.hid ((HPS3.out.any).keep hb4)
        clear hb4 y0 y1 y2 y3
        by_cases hsp : SplitOk f m x
        · have HSY := Lib.hid ((HSP.out w4 HPS4.out).1 hsp)
          have HYES : Hid (∀ (i : Nat) (x : Pl), i < k + 1 → l[i]? = some x → WS f m x) := HWN (HWI.out.2 hsp)
          clear hsp
          go_wp2_with fail
          refine HSY.out.mono ?_
          rintro e w5 ⟨rfl, hb5⟩
          have HB5 := Lib.hid (HB4.out.trans (hb5.mono HB4.out.size))
          clear hb5
          go_wp2_with fail
          go_roundg (n - (k + 1))
          case measure => have := HG.out; omega
          case rel => exact ⟨k + 1, by omega, rfl, by go_num, HYES, HB5.out⟩
        · have HSN := Lib.hid ((HSP.out w4 HPS4.out).2 hsp)
          have HNO := Lib.hid (show ¬ (∀ x ∈ l, WS f m x) from fun h => hsp (HWI.out.1 (HXA.out h)))
          clear hsp
          go_wp2_with fail
          refine HSN.out.mono ?_
          rintro e w5 ⟨rfl, hb5⟩
          have HB5 := Lib.hid (HBO4.out.trans (hb5.mono HBO4.out.size))
          clear hb5
          go_wp2_with fail
          go_ret
          exact RetIff.no HNO.out HB5.out
    · have hltz : ¬ (k : Int) < (n : Int) := by omega
      have HYE := Lib.hid (show ∀ x ∈ l, WS f m x from fun x hx => by
        obtain ⟨i, hi, e⟩ := List.getElem_of_mem hx
        exact HW i x (by have := HN.out; omega) (by rw [List.getElem?_eq_getElem hi, e]))
      go_wp2
      go_ret
      exact RetIff.yes HYE.out HB.out
end Go.Proofs.YtpfpojehcjmfnaaGreat

/-
  hasUnit and Check of the program; Check of the document.
  Conditions: the slices read as wants of ints.
-/
set_option linter.unusedVariables false
namespace Go.Proofs.YtpfpojehcjmfnaaGreat
open Go.RowKit

theorem unitPred_any (u : Int) (B : Nat) (p : Sp) (W : World) (hB : B < W.heap.size) (hc : W.cell? ⟨B, 0, none⟩ = some (.int .i64 u)) :
    Calls Tryz.prog 139 #[.agg #[.int .i64 p.1, .int .i64 p.2], .pointer (some ⟨B, 0, none⟩)] W (RetB (.bool (decide (p.1 = u))) W) := by
  obtain ⟨a, b⟩ := p
  simp only
  have hne : B ≠ W.heap.size := by omega
  have hd : (a == u) = decide (a = u) := by by_cases h : a = u <;> simp [h]
  go_enter Tryz.func139, Tryz.ntmps139
  go_wp2
  all_goals go_ret
  all_goals exact ⟨by simp_all, (Below.refl _ _).alloc (Nat.le_refl _) _⟩

theorem hasUnit_any (v : Value) (ps : List Sp) (u : Int) (w : World) (h : SpansAt w v ps) :
    Calls Tryz.prog 85 #[v, .int .i64 u] w (RetB (.bool (ps.any fun s => decide (s.1 = u))) w) := by
  have eg : ∀ args w, (callFunc 139 args).run Tryz.prog w = .ok (.enter 139 args) w := enters_of Tryz.func139 (by kernel_rfl) rfl
  have hb0 : Below w.heap.size w (w.alloc (.cells #[.int .i64 u] 3)) := (Below.refl _ _).alloc (Nat.le_refl _) _
  have HC := Lib.hid (contains_any _ #[.pointer (some ⟨w.heap.size, 0, none⟩)] eg (fun s => decide (s.1 = u)) v ps (w.alloc (.cells #[.int .i64 u] 3)) (fun W p hb => by
    refine unitPred_any u w.heap.size p W (by have := hb.size; simp at this; omega) ?_
    rw [hb.cell (p := ⟨w.heap.size, 0, none⟩) (by simp)]
    simp) (h.keep hb0))
  have HB := Lib.hid hb0
  generalize (ps.any fun s => decide (s.1 = u)) = r at *
  clear h hb0
  go_enter Tryz.func85, Tryz.ntmps85
  go_wp2_with (go_at_call 138; refine HC.out.mono ?_; rintro e w' ⟨rfl, hb⟩)
  go_ret
  exact ⟨rfl, HB.out.trans (hb.mono (by simp))⟩

/-- The first i of a slice. -/
theorem SpansAt.cut {W : World} {A : Option Addr} {n c : Nat} {ps : List Sp} {i : Nat} (h : SpansAt W (.slice A n c) ps) (hi : i ≤ n) : SpansAt W (.slice A i c) (ps.take i) := by
  obtain ⟨A', c', h1, h2, h3, h4, h5⟩ := h
  injection h1 with e1 e2 e3
  subst e1 e2 e3
  have hl : (ps.take i).length = i := by rw [List.length_take]; omega
  refine ⟨A, c, by rw [hl], by omega, by omega, h4, fun hn => ?_⟩
  obtain ⟨b, off, e, hlt, hc⟩ := h5 (by omega)
  refine ⟨b, off, e, hlt, fun j p hj => hc j p ?_⟩
  rw [List.getElem?_take] at hj
  split at hj
  · exact hj
  · cases hj

def ChkRel (n : Nat) (f : Int) (ps : List Sp) (R : Int) (w : World) (gg : Nat) (s18 : Value) (wr : World) : Prop :=
  ∃ i : Nat, i ≤ n ∧ gg = n - i ∧ s18 = .int .i64 i ∧ Below w.heap.size w wr ∧ chkL f (ps.take i) (ps.drop i) = R

set_option maxRecDepth 100000 in
set_option maxHeartbeats 4000000 in
theorem check_any (f : Int) (v : Value) (ps : List Sp) (w : World) (h : SpansAt w v ps) (hi : IntsS ps) : Calls Tryz.prog 41 #[.int .i64 f, v] w (RetB (.int .i64 (chkT f ps)) w) := by
  by_cases hf1 : f < 2
  · have HR : Hid (chkT f ps = 1) := if_pos (.inl hf1)
    obtain ⟨A, c, rfl, _⟩ := h
    go_enter Tryz.func41, Tryz.ntmps41
    go_wp2
    go_ret
    exact ⟨by rw [HR.out]; rfl, Below.refl _ _⟩
  · by_cases hf2 : 64 < f
    · have HR : Hid (chkT f ps = 1) := if_pos (.inr hf2)
      obtain ⟨A, c, rfl, _⟩ := h
      go_enter Tryz.func41, Tryz.ntmps41
      go_wp2
      go_ret
      exact ⟨by rw [HR.out]; rfl, Below.refl _ _⟩
    · obtain ⟨R, hR⟩ : ∃ R, chkT f ps = R := ⟨_, rfl⟩
      have HR : Hid (chkL f [] ps = R) := by rw [← hR]; exact (if_neg (by omega)).symm
      rw [hR]
      have HS := Lib.hid h
      obtain ⟨A, c, rfl, hc1, hlen, hc2, hat⟩ := h
      have HAT := Lib.hid hat
      have HI := Lib.hid hi
      generalize hn : ps.length = n at *
      have HN := Lib.hid hn
      have HU := Lib.hid (fun v ps u w h => hasUnit_any v ps u w h)
      clear hat hn hR hi
      go_enter Tryz.func41, Tryz.ntmps41
      go_wp2_with fail
      go_loopg [5, 6, 7, 8, 9, 18] n (fun gg _ _ _ _ _ s18 wr => ChkRel n f ps R w gg s18 wr)
      case atStart => exact ⟨0, Nat.zero_le _, by omega, rfl, Below.refl _ _, HR.out⟩
      case round =>
        obtain ⟨i, hin, hgg, rfl, hbw, hchk⟩ := hrel
        have HG := Lib.hid hgg
        have HB := Lib.hid hbw
        have HK := Lib.hid hchk
        have hsz := hbw.size
        clear hgg hbw hchk
        by_cases hlt : i < n
        · have hltz : (i : Int) < (n : Int) := by omega
          obtain ⟨b, off, hA, hbl, hcell⟩ := HAT.out (by omega)
          subst hA
          obtain ⟨y, hy⟩ := ex_at (xs := ps) (k := i) (by rw [HN.out]; exact hlt)
          obtain ⟨c1, c2⟩ := (hcell i y hy).keep HB.out hbl
          obtain ⟨a1, a2⟩ := (HI.out.at_ hy).1
          have HY := Lib.hid hy
          have hkind := fun W => kind_any y.1 a1 a2 W
          have HBX := Lib.hid (HB.out.alloc hsz (Obj.cells #[.int .i64 y.1, .int .i64 y.2] 52))
          cases hu : isU y.1
          · have HKI : Hid (∀ W, Calls Tryz.prog 84 #[.int .i64 y.1] W (Ret (.tuple #[.int .i64 (kindI y.1), .bool (kindG y.1), .bool false]) W)) := by
              intro W; have := hkind W; rw [hu] at this; exact this
            have HRN : Hid (R = 20) := by
              have e := chkE_id (f := f) (b := ps.take i) hu
              exact (chk_bad hy (by rw [e]; decide) HK.out).trans e
            obtain ⟨y1, y2⟩ := y
            simp only at c1 c2 HKI HBX
            generalize kindI y1 = k1 at *
            generalize kindG y1 = k2 at *
            clear hcell hy hkind hu a1 a2
            go_wp2_with (go_at_call 84; refine (HKI.out _).mono ?_; rintro e w' ⟨rfl, rfl⟩)
            go_ret
            exact ⟨by rw [HRN.out]; rfl, HBX.out⟩
          · have HKI : Hid (∀ W, Calls Tryz.prog 84 #[.int .i64 y.1] W (Ret (.tuple #[.int .i64 (kindI y.1), .bool (kindG y.1), .bool true]) W)) := by
              intro W; have := hkind W; rw [hu] at this; exact this
            by_cases hs1 : y.2 < 1
            · have HRN : Hid (R = 21) := by
                have e := chkE_share (f := f) (b := ps.take i) hu (.inl hs1)
                exact (chk_bad hy (by rw [e]; decide) HK.out).trans e
              obtain ⟨y1, y2⟩ := y
              simp only at c1 c2 HKI HBX hs1
              generalize kindI y1 = k1 at *
              generalize kindG y1 = k2 at *
              clear hcell hy hkind hu a1 a2
              go_wp2_with (go_at_call 84; refine (HKI.out _).mono ?_; rintro e w' ⟨rfl, rfl⟩)
              go_ret
              exact ⟨by rw [HRN.out]; rfl, HBX.out⟩
            · by_cases hs2 : f < y.2
              · have HRN : Hid (R = 21) := by
                  have e := chkE_share (f := f) (b := ps.take i) hu (.inr hs2)
                  exact (chk_bad hy (by rw [e]; decide) HK.out).trans e
                obtain ⟨y1, y2⟩ := y
                simp only at c1 c2 HKI HBX hs1 hs2
                generalize kindI y1 = k1 at *
                generalize kindG y1 = k2 at *
                clear hcell hy hkind hu a1 a2
                go_wp2_with (go_at_call 84; refine (HKI.out _).mono ?_; rintro e w' ⟨rfl, rfl⟩)
                go_ret
                exact ⟨by rw [HRN.out]; rfl, HBX.out⟩
              · have HCUT := Lib.hid ((HS.out.keep HB.out).cut (i := i) (by omega))
                have hic : (i : Int) ≤ (c : Int) := by omega
                have hi0 : (0 : Int) ≤ (i : Int) := by omega
                have HUY : Hid (∀ W', Below wr.heap.size wr W' → Calls Tryz.prog 85 #[.slice (some ⟨b, off, none⟩) i c, .int .i64 y.1] W' (RetB (.bool ((ps.take i).any fun s => decide (s.1 = y.1))) W')) := fun W' hb => HU.out _ _ _ W' (HCUT.out.keep hb)
                obtain ⟨T, hT⟩ : ∃ T, ((ps.take i).any fun s => decide (s.1 = y.1)) = T := ⟨_, rfl⟩
                rw [hT] at HUY
                have HTT : Hid (if T then R = 11 else chkL f (ps.take (i + 1)) (ps.drop (i + 1)) = R) := by
                  cases T
                  · exact chk_ok hy (chkE_ok hu hs1 hs2 hT) HK.out
                  · have e := chkE_two (f := f) hu hs1 hs2 hT
                    show R = 11
                    exact (chk_bad hy (by rw [e]; decide) HK.out).trans e
                obtain ⟨y1, y2⟩ := y
                simp only at c1 c2 HKI HBX HUY hs1 hs2
                generalize kindI y1 = k1 at *
                generalize kindG y1 = k2 at *
                have HX0 := Lib.hid (show Below wr.heap.size wr (wr.alloc (Obj.cells #[Value.int .i64 y1, Value.int .i64 y2] 52)) from (Below.refl _ _).alloc (Nat.le_refl _) _)
                clear hcell hy hkind hu a1 a2 hT
                cases T
                · have HT2 : Hid (chkL f (ps.take (i + 1)) (ps.drop (i + 1)) = R) := HTT.out
                  clear HTT
                  go_wp2_with (go_at_call 84; refine (HKI.out _).mono ?_; rintro e w' ⟨rfl, rfl⟩)
                  go_wp2_with fail
                  go_region_held3 (fun w' => w'.cell? ⟨wr.heap.size, 0, none⟩ = some (.int .i64 y1))
                    (first | go_keep | exact (hb.cell (p := ⟨wr.heap.size, 0, none⟩) (by simp)).trans (by simp))
                    (first | (go_at_call 85; refine (HUY.out _ HX0.out.drew).mono ?_; rintro e w' ⟨rfl, hb⟩))
                  have HB5 := Lib.hid (HBX.out.drew.trans (hb.mono (by simp; omega)))
                  clear hb
                  go_wp2
                  go_roundg (n - (i + 1))
                  case measure => have := HG.out; omega
                  case rel => exact ⟨i + 1, by omega, rfl, by go_num, HB5.out, HT2.out⟩
                · have HRN : Hid (R = 11) := HTT.out
                  clear HTT
                  go_wp2_with (go_at_call 84; refine (HKI.out _).mono ?_; rintro e w' ⟨rfl, rfl⟩)
                  go_wp2_with fail
                  go_region_held3 (fun w' => w'.cell? ⟨wr.heap.size, 0, none⟩ = some (.int .i64 y1))
                    (first | go_keep | exact (hb.cell (p := ⟨wr.heap.size, 0, none⟩) (by simp)).trans (by simp))
                    (first | (go_at_call 85; refine (HUY.out _ HX0.out.drew).mono ?_; rintro e w' ⟨rfl, hb⟩))
                  have HB5 := Lib.hid (HBX.out.drew.trans (hb.mono (by simp; omega)))
                  clear hb
                  go_wp2
                  go_ret
                  exact ⟨by rw [HRN.out]; rfl, HB5.out⟩
        · have hin' : i = n := by omega
          subst hin'
          have hltz : ¬ (i : Int) < (i : Int) := by omega
          have HRN : Hid (R = 0) := by
            have := HK.out
            rw [List.drop_eq_nil_of_le (by rw [HN.out]; exact Nat.le_refl _)] at this
            exact this.symm
          go_wp2
          go_ret
          exact ⟨by rw [HRN.out]; rfl, HB.out⟩

end Go.Proofs.YtpfpojehcjmfnaaGreat
