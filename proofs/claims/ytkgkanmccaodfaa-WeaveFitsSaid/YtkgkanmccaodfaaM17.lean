/-
  slices.IsSortedFunc of places by their units, and rightUnits of the program.
  Conditions: the slice reads as places; the numbers are of their kinds.
-/
import Derived.Test.YtkgkanmccaodfaaM16
import Derived.Test.YtkgkanmccaodfaaM09
import Derived.Test.YtkgkanmccaodfaaM02
import Derived.Test.YtkgkanmccaodfaaM12

/-
  rightPlaces of the program.
  Conditions: the slice reads as places; the numbers are of their kinds.
-/
set_option linter.unusedVariables false
namespace Go.Proofs.Ytkgkanmccaodfaa
open Go.RowKit Go.Sort

theorem ws_whole {f : Int} {m : Nat} {x : Pl} (h : x.ps.length = 0) : WS f m x ↔ hasC m x.c = true :=
  have e : x.ps = [] := List.eq_nil_of_length_eq_zero h
  ⟨fun hw => hw.whole e, fun hh => ⟨fun _ => hh, fun hne => absurd e hne⟩⟩
theorem ws_split {f : Int} {m : Nat} {x : Pl} (h : x.ps.length ≠ 0) : WS f m x ↔ SplitOk f m x :=
  have e : x.ps ≠ [] := fun e => h (by rw [e]; rfl)
  ⟨fun hw => hw.split e, fun hh => ⟨fun e' => absurd e' e, fun _ => hh⟩⟩

set_option maxRecDepth 100000 in
set_option maxHeartbeats 4000000 in
theorem rightPlaces_any (f : Int) (m : Nat) (v : Value) (l : List Pl) (w : World) (h : PlsAt w v l) (hL : LightL l) (hm : m < 4294967296) (hf : 2 ≤ f) (hf2 : f ≤ 64) :
    Calls Try.prog 47 #[planA f m v] w (RetIff (∀ x ∈ l, WS f m x) w) := by
  have HLL := Lib.hid hL
  have HM := Lib.hid hm
  have HF := Lib.hid (And.intro hf hf2)
  have hl : l.length ≤ 1000 := by have := hL.len; omega
  have HHC := Lib.hid (fun v c W => hasCore_any f m v c W hm)
  have HIW := Lib.hid (fun A n d x w => isWhole_any Any A n d x w)
  unfold planA at HHC
  unfold plA at HIW
  clear hL hm hf hf2
  obtain ⟨A, cA, rfl, hlc, hcm⟩ := h.form
  have HL := Lib.hid h
  obtain ⟨w1, P, hw1, hP, hPl, hb1, hbox⟩ := box_any w #[.int .i64 f, .int .u32 m, .slice A l.length cA] 25
  obtain ⟨n, hn⟩ : ∃ n, l.length = n := ⟨_, rfl⟩
  rw [hn] at HL hlc hl hw1 hbox ⊢
  have HN := Lib.hid hn
  have HB1 := Lib.hid hb1
  have HBOX := Lib.hid hbox
  obtain ⟨r0, r1, r2⟩ := three_heads hbox
  clear h hn hb1 hbox
  unfold planA
  go_enter Try.func47, Try.ntmps47
  go_wp2_with fail
  clear hw1 hP r0 r1 r2
  go_loopg [4, 8] n (fun gg _ s8 wr => ∃ k : Nat, k ≤ n ∧ gg = n - k ∧ s8 = .int .i64 k ∧ Hid (∀ (i : Nat) (x : Pl), i < k → l[i]? = some x → WS f m x) ∧ Below w1.heap.size w1 wr)
  case atStart => exact ⟨0, Nat.zero_le _, by omega, rfl, fun i x h => absurd h (Nat.not_lt_zero _), Below.refl _ _⟩
  case round =>
    obtain ⟨k, hk, hg, rfl, HW, hbw⟩ := hrel
    have HBW := Lib.hid hbw
    have HB := Lib.hid (HB1.out.trans (hbw.mono HB1.out.size))
    have HG := Lib.hid hg
    have hPl2 : P < wr.heap.size := Nat.lt_of_lt_of_le hPl hbw.size
    have HBX := Lib.hid ((hbw.block P hPl).trans HBOX.out)
    obtain ⟨r0, r1, r2⟩ := three_heads HBX.out
    have HLR := Lib.hid (HL.out.keep HB.out)
    clear hbw hg
    by_cases hlt : k < n
    · have hk0 : (0 : Int) ≤ (k : Int) := by omega
      have hltz : (k : Int) < (n : Int) := by omega
      obtain ⟨x, hx⟩ := exP_at (xs := l) (k := k) (by rw [HN.out]; exact hlt)
      obtain ⟨b, off, B, d, hA, hbl, _, ⟨c0, c1, c2, c3⟩, hps⟩ := HLR.out.at_ hx
      subst hA
      simp only at c0 c1 c2 c3
      have HX := Lib.hid hx
      have HPS := Lib.hid hps
      clear hx hps
      obtain ⟨w2, N, hw2, hN, hNl, hb2, hxbox⟩ := box_any wr #[.int .i64 x.u, .int .i64 x.s, .int .i64 x.c, .slice B x.ps.length d] 38
      have HB2 := Lib.hid hb2
      have HXB := Lib.hid hxbox
      obtain ⟨x0, x1, x2, x3⟩ := four_heads hxbox
      obtain ⟨p0, p1, p2⟩ := three_heads (keep_block HBX.out hb2)
      clear hb2 hxbox
      have hxo := HLL.out.ok x (List.mem_of_getElem? HX.out)
      have HBS := Lib.hid (HBW.out.trans (HB2.out.mono HBW.out.size))
      have HBX2 := Lib.hid (keep_block HBX.out HB2.out)
      have HIC := Lib.hid (fun w => HIW.out B x.ps.length d x w)
      have HCC := Lib.hid (fun w => HHC.out (.slice (some ⟨b, off, none⟩) n cA) x.c w)
      have HXA := Lib.hid (show (∀ x ∈ l, WS f m x) → WS f m x from fun h => h x (List.mem_of_getElem? HX.out))
      have HWN : Hid (WS f m x → ∀ (i : Nat) (x : Pl), i < k + 1 → l[i]? = some x → WS f m x) := fun hws i y hi hy => by
        by_cases e : i = k
        · subst e; rw [HX.out] at hy; cases hy; exact hws
        · exact HW i y (by omega) hy
      have HSP := Lib.hid (fun W h => calls_iff (rightSplit_any f m (.slice (some ⟨b, off, none⟩) n cA) (.slice B x.ps.length d) x W h hxo.1 hxo.2 HM.out HF.out.1 HF.out.2))
      unfold planA plA at HSP
      have HWW := Lib.hid (fun h => ws_whole (f := f) (m := m) (x := x) h)
      have HWS := Lib.hid (fun h => ws_split (f := f) (m := m) (x := x) h)
      clear hxo
      cases hz : decide (x.ps.length = 0) with
      | true =>
        rw [hz] at HIC
        have HWI := Lib.hid (HWW.out (of_decide_eq_true hz))
        clear hz
        cases hh : hasC m x.c with
        | false =>
          rw [hh] at HCC HWI
          have HNO := Lib.hid (show ¬ (∀ x ∈ l, WS f m x) from fun h => by have := HWI.out.1 (HXA.out h); cases this)
          clear hh
          go_wp2_with fail
          refine (HIC.out _).mono ?_
          rintro e w3 ⟨rfl, hb3⟩
          have HB3 := Lib.hid (HBS.out.trans (hb3.mono HBS.out.size))
          obtain ⟨y0, y1, y2, y3⟩ := four_heads (keep_block HXB.out hb3)
          obtain ⟨q0, q1, q2⟩ := three_heads (keep_block HBX2.out hb3)
          clear hb3 x0 x1 x2 x3 p0 p1 p2
          go_wp2_with fail
          refine (HCC.out _).mono ?_
          rintro e w4 ⟨rfl, hb4⟩
          have HB4 := Lib.hid (HB1.out.trans ((HB3.out.trans (hb4.mono HB3.out.size)).mono HB1.out.size))
          clear hb4
          go_wp2_with fail
          go_ret
          exact RetIff.no HNO.out HB4.out
        | true =>
          rw [hh] at HCC HWI
          have HYES : Hid (∀ (i : Nat) (x : Pl), i < k + 1 → l[i]? = some x → WS f m x) := HWN (HWI.out.2 rfl)
          clear hh
          go_wp2_with fail
          refine (HIC.out _).mono ?_
          rintro e w3 ⟨rfl, hb3⟩
          have HB3 := Lib.hid (HBS.out.trans (hb3.mono HBS.out.size))
          have HXB3 := Lib.hid (keep_block HXB.out hb3)
          obtain ⟨y0, y1, y2, y3⟩ := four_heads HXB3.out
          obtain ⟨q0, q1, q2⟩ := three_heads (keep_block HBX2.out hb3)
          clear hb3 x0 x1 x2 x3 p0 p1 p2
          go_wp2_with fail
          refine (HCC.out _).mono ?_
          rintro e w4 ⟨rfl, hb4⟩
          have HB4 := Lib.hid (HB3.out.trans (hb4.mono HB3.out.size))
          obtain ⟨z0, z1, z2, z3⟩ := four_heads (keep_block HXB3.out hb4)
          clear hb4 y0 y1 y2 y3
          go_wp2_with fail
          refine (HIC.out _).mono ?_
          rintro e w5 ⟨rfl, hb5⟩
          have HB5 := Lib.hid (HB4.out.trans (hb5.mono HB4.out.size))
          clear hb5
          go_wp2_with fail
          go_roundg (n - (k + 1))
          case measure => have := HG.out; omega
          case rel => exact ⟨k + 1, by omega, rfl, by go_num, HYES, HB5.out⟩
      | false =>
        rw [hz] at HIC
        have HWI := Lib.hid (HWS.out (of_decide_eq_false hz))
        clear hz
        go_wp2_with fail
        refine (HIC.out _).mono ?_
        rintro e w3 ⟨rfl, hb3⟩
        have HB3 := Lib.hid (HBS.out.trans (hb3.mono HBS.out.size))
        have HXB3 := Lib.hid (keep_block HXB.out hb3)
        have HBX3 := Lib.hid (keep_block HBX2.out hb3)
        have HPS3 := Lib.hid ((HPS.out.keep HB2.out).keep hb3)
        obtain ⟨y0, y1, y2, y3⟩ := four_heads HXB3.out
        clear hb3 x0 x1 x2 x3 p0 p1 p2
        go_wp2_with fail
        refine (HIC.out _).mono ?_
        rintro e w4 ⟨rfl, hb4⟩
        have HB4 := Lib.hid (HB3.out.trans (hb4.mono HB3.out.size))
        have HBO4 := Lib.hid (HB1.out.trans (HB4.out.mono HB1.out.size))
        obtain ⟨z0, z1, z2, z3⟩ := four_heads (keep_block HXB3.out hb4)
        obtain ⟨q0, q1, q2⟩ := three_heads (keep_block HBX3.out hb4)
        have HPS4 := Lib.hid ((HPS3.out.any).keep hb4)
        clear hb4 y0 y1 y2 y3
        by_cases hsp : SplitOk f m x
        · have HSY := Lib.hid ((HSP.out w4 HPS4.out).1 hsp)
          have HYES : Hid (∀ (i : Nat) (x : Pl), i < k + 1 → l[i]? = some x → WS f m x) := HWN (HWI.out.2 hsp)
          clear hsp
          go_wp2_with fail
          refine HSY.out.mono ?_
          rintro e w5 ⟨rfl, hb5⟩
          have HB5 := Lib.hid (HB4.out.trans (hb5.mono HB4.out.size))
          clear hb5
          go_wp2_with fail
          go_roundg (n - (k + 1))
          case measure => have := HG.out; omega
          case rel => exact ⟨k + 1, by omega, rfl, by go_num, HYES, HB5.out⟩
        · have HSN := Lib.hid ((HSP.out w4 HPS4.out).2 hsp)
          have HNO := Lib.hid (show ¬ (∀ x ∈ l, WS f m x) from fun h => hsp (HWI.out.1 (HXA.out h)))
          clear hsp
          go_wp2_with fail
          refine HSN.out.mono ?_
          rintro e w5 ⟨rfl, hb5⟩
          have HB5 := Lib.hid (HBO4.out.trans (hb5.mono HBO4.out.size))
          clear hb5
          go_wp2_with fail
          go_ret
          exact RetIff.no HNO.out HB5.out
    · have hltz : ¬ (k : Int) < (n : Int) := by omega
      have HYE := Lib.hid (show ∀ x ∈ l, WS f m x from fun x hx => by
        obtain ⟨i, hi, e⟩ := List.getElem_of_mem hx
        exact HW i x (by have := HN.out; omega) (by rw [List.getElem?_eq_getElem hi, e]))
      go_wp2
      go_ret
      exact RetIff.yes HYE.out HB.out
end Go.Proofs.Ytkgkanmccaodfaa

/-
  hasUnit and Check of the program; Check of the document.
  Conditions: the slices read as wants of ints.
-/
set_option linter.unusedVariables false
namespace Go.Proofs.Ytkgkanmccaodfaa
open Go.RowKit

theorem unitPred_any (u : Int) (B : Nat) (p : Sp) (W : World) (hB : B < W.heap.size) (hc : W.cell? ⟨B, 0, none⟩ = some (.int .i64 u)) :
    Calls Try.prog 92 #[.agg #[.int .i64 p.1, .int .i64 p.2], .pointer (some ⟨B, 0, none⟩)] W (RetB (.bool (decide (p.1 = u))) W) := by
  obtain ⟨a, b⟩ := p
  simp only
  have hne : B ≠ W.heap.size := by omega
  have hd : (a == u) = decide (a = u) := by by_cases h : a = u <;> simp [h]
  go_enter Try.func92, Try.ntmps92
  go_wp2
  all_goals go_ret
  all_goals exact ⟨by simp_all, (Below.refl _ _).alloc (Nat.le_refl _) _⟩

theorem hasUnit_any (v : Value) (ps : List Sp) (u : Int) (w : World) (h : SpansAt w v ps) :
    Calls Try.prog 80 #[v, .int .i64 u] w (RetB (.bool (ps.any fun s => decide (s.1 = u))) w) := by
  have eg : ∀ args w, (callFunc 92 args).run Try.prog w = .ok (.enter 92 args) w := enters_of Try.func92 (by kernel_rfl) rfl
  have hb0 : Below w.heap.size w (w.alloc (.cells #[.int .i64 u] 3)) := (Below.refl _ _).alloc (Nat.le_refl _) _
  have HC := Lib.hid (contains_any _ #[.pointer (some ⟨w.heap.size, 0, none⟩)] eg (fun s => decide (s.1 = u)) v ps (w.alloc (.cells #[.int .i64 u] 3)) (fun W p hb => by
    refine unitPred_any u w.heap.size p W (by have := hb.size; simp at this; omega) ?_
    rw [hb.cell (p := ⟨w.heap.size, 0, none⟩) (by simp)]
    simp) (h.keep hb0))
  have HB := Lib.hid hb0
  generalize (ps.any fun s => decide (s.1 = u)) = r at *
  clear h hb0
  go_enter Try.func80, Try.ntmps80
  go_wp2_with (go_at_call 91; refine HC.out.mono ?_; rintro e w' ⟨rfl, hb⟩)
  go_ret
  exact ⟨rfl, HB.out.trans (hb.mono (by simp))⟩

/-- The first i of a slice. -/
theorem SpansAt.cut {W : World} {A : Option Addr} {n c : Nat} {ps : List Sp} {i : Nat} (h : SpansAt W (.slice A n c) ps) (hi : i ≤ n) : SpansAt W (.slice A i c) (ps.take i) := by
  obtain ⟨A', c', h1, h2, h3, h4, h5⟩ := h
  injection h1 with e1 e2 e3
  subst e1 e2 e3
  have hl : (ps.take i).length = i := by rw [List.length_take]; omega
  refine ⟨A, c, by rw [hl], by omega, by omega, h4, fun hn => ?_⟩
  obtain ⟨b, off, e, hlt, hc⟩ := h5 (by omega)
  refine ⟨b, off, e, hlt, fun j p hj => hc j p ?_⟩
  rw [List.getElem?_take] at hj
  split at hj
  · exact hj
  · cases hj

def ChkRel (n : Nat) (f : Int) (ps : List Sp) (R : Int) (w : World) (gg : Nat) (s18 : Value) (wr : World) : Prop :=
  ∃ i : Nat, i ≤ n ∧ gg = n - i ∧ s18 = .int .i64 i ∧ Below w.heap.size w wr ∧ chkL f (ps.take i) (ps.drop i) = R

set_option maxRecDepth 100000 in
set_option maxHeartbeats 4000000 in
theorem check_any (f : Int) (v : Value) (ps : List Sp) (w : World) (h : SpansAt w v ps) (hi : IntsS ps) : Calls Try.prog 55 #[.int .i64 f, v] w (RetB (.int .i64 (chkT f ps)) w) := by
  by_cases hf1 : f < 2
  · have HR : Hid (chkT f ps = 1) := if_pos (.inl hf1)
    obtain ⟨A, c, rfl, _⟩ := h
    go_enter Try.func55, Try.ntmps55
    go_wp2
    go_ret
    exact ⟨by rw [HR.out]; rfl, Below.refl _ _⟩
  · by_cases hf2 : 64 < f
    · have HR : Hid (chkT f ps = 1) := if_pos (.inr hf2)
      obtain ⟨A, c, rfl, _⟩ := h
      go_enter Try.func55, Try.ntmps55
      go_wp2
      go_ret
      exact ⟨by rw [HR.out]; rfl, Below.refl _ _⟩
    · obtain ⟨R, hR⟩ : ∃ R, chkT f ps = R := ⟨_, rfl⟩
      have HR : Hid (chkL f [] ps = R) := by rw [← hR]; exact (if_neg (by omega)).symm
      rw [hR]
      have HS := Lib.hid h
      obtain ⟨A, c, rfl, hc1, hlen, hc2, hat⟩ := h
      have HAT := Lib.hid hat
      have HI := Lib.hid hi
      generalize hn : ps.length = n at *
      have HN := Lib.hid hn
      have HU := Lib.hid (fun v ps u w h => hasUnit_any v ps u w h)
      clear hat hn hR hi
      go_enter Try.func55, Try.ntmps55
      go_wp2_with fail
      go_loopg [5, 6, 7, 8, 9, 18] n (fun gg _ _ _ _ _ s18 wr => ChkRel n f ps R w gg s18 wr)
      case atStart => exact ⟨0, Nat.zero_le _, by omega, rfl, Below.refl _ _, HR.out⟩
      case round =>
        obtain ⟨i, hin, hgg, rfl, hbw, hchk⟩ := hrel
        have HG := Lib.hid hgg
        have HB := Lib.hid hbw
        have HK := Lib.hid hchk
        have hsz := hbw.size
        clear hgg hbw hchk
        by_cases hlt : i < n
        · have hltz : (i : Int) < (n : Int) := by omega
          obtain ⟨b, off, hA, hbl, hcell⟩ := HAT.out (by omega)
          subst hA
          obtain ⟨y, hy⟩ := ex_at (xs := ps) (k := i) (by rw [HN.out]; exact hlt)
          obtain ⟨c1, c2⟩ := (hcell i y hy).keep HB.out hbl
          obtain ⟨a1, a2⟩ := (HI.out.at_ hy).1
          have HY := Lib.hid hy
          have hkind := fun W => kind_any y.1 a1 a2 W
          have HBX := Lib.hid (HB.out.alloc hsz (Obj.cells #[.int .i64 y.1, .int .i64 y.2] 35))
          cases hu : isU y.1
          · have HKI : Hid (∀ W, Calls Try.prog 79 #[.int .i64 y.1] W (Ret (.tuple #[.int .i64 (kindI y.1), .bool (kindG y.1), .bool false]) W)) := by
              intro W; have := hkind W; rw [hu] at this; exact this
            have HRN : Hid (R = 20) := by
              have e := chkE_id (f := f) (b := ps.take i) hu
              exact (chk_bad hy (by rw [e]; decide) HK.out).trans e
            obtain ⟨y1, y2⟩ := y
            simp only at c1 c2 HKI HBX
            generalize kindI y1 = k1 at *
            generalize kindG y1 = k2 at *
            clear hcell hy hkind hu a1 a2
            go_wp2_with (go_at_call 79; refine (HKI.out _).mono ?_; rintro e w' ⟨rfl, rfl⟩)
            go_ret
            exact ⟨by rw [HRN.out]; rfl, HBX.out⟩
          · have HKI : Hid (∀ W, Calls Try.prog 79 #[.int .i64 y.1] W (Ret (.tuple #[.int .i64 (kindI y.1), .bool (kindG y.1), .bool true]) W)) := by
              intro W; have := hkind W; rw [hu] at this; exact this
            by_cases hs1 : y.2 < 1
            · have HRN : Hid (R = 21) := by
                have e := chkE_share (f := f) (b := ps.take i) hu (.inl hs1)
                exact (chk_bad hy (by rw [e]; decide) HK.out).trans e
              obtain ⟨y1, y2⟩ := y
              simp only at c1 c2 HKI HBX hs1
              generalize kindI y1 = k1 at *
              generalize kindG y1 = k2 at *
              clear hcell hy hkind hu a1 a2
              go_wp2_with (go_at_call 79; refine (HKI.out _).mono ?_; rintro e w' ⟨rfl, rfl⟩)
              go_ret
              exact ⟨by rw [HRN.out]; rfl, HBX.out⟩
            · by_cases hs2 : f < y.2
              · have HRN : Hid (R = 21) := by
                  have e := chkE_share (f := f) (b := ps.take i) hu (.inr hs2)
                  exact (chk_bad hy (by rw [e]; decide) HK.out).trans e
                obtain ⟨y1, y2⟩ := y
                simp only at c1 c2 HKI HBX hs1 hs2
                generalize kindI y1 = k1 at *
                generalize kindG y1 = k2 at *
                clear hcell hy hkind hu a1 a2
                go_wp2_with (go_at_call 79; refine (HKI.out _).mono ?_; rintro e w' ⟨rfl, rfl⟩)
                go_ret
                exact ⟨by rw [HRN.out]; rfl, HBX.out⟩
              · have HCUT := Lib.hid ((HS.out.keep HB.out).cut (i := i) (by omega))
                have hic : (i : Int) ≤ (c : Int) := by omega
                have hi0 : (0 : Int) ≤ (i : Int) := by omega
                have HUY : Hid (∀ W', Below wr.heap.size wr W' → Calls Try.prog 80 #[.slice (some ⟨b, off, none⟩) i c, .int .i64 y.1] W' (RetB (.bool ((ps.take i).any fun s => decide (s.1 = y.1))) W')) := fun W' hb => HU.out _ _ _ W' (HCUT.out.keep hb)
                obtain ⟨T, hT⟩ : ∃ T, ((ps.take i).any fun s => decide (s.1 = y.1)) = T := ⟨_, rfl⟩
                rw [hT] at HUY
                have HTT : Hid (if T then R = 11 else chkL f (ps.take (i + 1)) (ps.drop (i + 1)) = R) := by
                  cases T
                  · exact chk_ok hy (chkE_ok hu hs1 hs2 hT) HK.out
                  · have e := chkE_two (f := f) hu hs1 hs2 hT
                    show R = 11
                    exact (chk_bad hy (by rw [e]; decide) HK.out).trans e
                obtain ⟨y1, y2⟩ := y
                simp only at c1 c2 HKI HBX HUY hs1 hs2
                generalize kindI y1 = k1 at *
                generalize kindG y1 = k2 at *
                have HX0 := Lib.hid (show Below wr.heap.size wr (wr.alloc (Obj.cells #[Value.int .i64 y1, Value.int .i64 y2] 35)) from (Below.refl _ _).alloc (Nat.le_refl _) _)
                clear hcell hy hkind hu a1 a2 hT
                cases T
                · have HT2 : Hid (chkL f (ps.take (i + 1)) (ps.drop (i + 1)) = R) := HTT.out
                  clear HTT
                  go_wp2_with (go_at_call 79; refine (HKI.out _).mono ?_; rintro e w' ⟨rfl, rfl⟩)
                  go_wp2_with fail
                  go_region_held3 (fun w' => w'.cell? ⟨wr.heap.size, 0, none⟩ = some (.int .i64 y1))
                    (first | go_keep | exact (hb.cell (p := ⟨wr.heap.size, 0, none⟩) (by simp)).trans (by simp))
                    (first | (go_at_call 80; refine (HUY.out _ HX0.out.drew).mono ?_; rintro e w' ⟨rfl, hb⟩))
                  have HB5 := Lib.hid (HBX.out.drew.trans (hb.mono (by simp; omega)))
                  clear hb
                  go_wp2
                  go_roundg (n - (i + 1))
                  case measure => have := HG.out; omega
                  case rel => exact ⟨i + 1, by omega, rfl, by go_num, HB5.out, HT2.out⟩
                · have HRN : Hid (R = 11) := HTT.out
                  clear HTT
                  go_wp2_with (go_at_call 79; refine (HKI.out _).mono ?_; rintro e w' ⟨rfl, rfl⟩)
                  go_wp2_with fail
                  go_region_held3 (fun w' => w'.cell? ⟨wr.heap.size, 0, none⟩ = some (.int .i64 y1))
                    (first | go_keep | exact (hb.cell (p := ⟨wr.heap.size, 0, none⟩) (by simp)).trans (by simp))
                    (first | (go_at_call 80; refine (HUY.out _ HX0.out.drew).mono ?_; rintro e w' ⟨rfl, hb⟩))
                  have HB5 := Lib.hid (HBX.out.drew.trans (hb.mono (by simp; omega)))
                  clear hb
                  go_wp2
                  go_ret
                  exact ⟨by rw [HRN.out]; rfl, HB5.out⟩
        · have hin' : i = n := by omega
          subst hin'
          have hltz : ¬ (i : Int) < (i : Int) := by omega
          have HRN : Hid (R = 0) := by
            have := HK.out
            rw [List.drop_eq_nil_of_le (by rw [HN.out]; exact Nat.le_refl _)] at this
            exact this.symm
          go_wp2
          go_ret
          exact ⟨by rw [HRN.out]; rfl, HB.out⟩

theorem any_unit {ps : List Sp} {u : Int} (h : ∀ (j : Nat) (s : Sp), ps[j]? = some s → s.1 ≠ u) : (ps.any fun s => decide (s.1 = u)) = false := by
  rw [List.any_eq_false]
  intro s hs
  obtain ⟨j, hj, e⟩ := List.getElem_of_mem hs
  have := h j s (by rw [List.getElem?_eq_getElem hj, e])
  simpa using this
theorem any_unit_yes {ps : List Sp} {u : Int} {j : Nat} {s : Sp} (h : ps[j]? = some s) (hu : s.1 = u) : (ps.any fun s => decide (s.1 = u)) = true :=
  List.any_eq_true.2 ⟨s, List.mem_of_getElem? h, by simpa using hu⟩
end Go.Proofs.Ytkgkanmccaodfaa

/-
  slices.IsSortedFunc of places by their units, and rightUnits of the program.
  Conditions: the slice reads as places; the numbers are of their kinds.
-/
set_option linter.unusedVariables false
set_option linter.unusedSimpArgs false
namespace Go.Proofs.Ytkgkanmccaodfaa
open Go.RowKit Go.Sort

theorem cmp_neg {a b : Int} (h : a < b) : cmpI a b = -1 := if_pos h
theorem cmp_nonneg {a b : Int} (h : ¬ a < b) : 0 ≤ cmpI a b := by
  unfold cmpI
  rw [if_neg h]
  split <;> decide

set_option maxRecDepth 100000 in
set_option maxHeartbeats 4000000 in
theorem isSorted_any (v : Value) (l : List Pl) (w : World) (h : PlsAt w v l) (hl : l.length ≤ 1000) :
    Calls Try.prog 66 #[v, .func (.func 67) #[] #[]] w (RetIff (Rises l) w) := by
  have eg : ∀ args w, (callFunc 67 args).run Try.prog w = .ok (.enter 67 args) w := enters_of Try.func67 (by kernel_rfl) rfl
  have HCU := Lib.hid (fun v v' x y W => compareUnits_any v v' x y W)
  unfold plA at HCU
  obtain ⟨A, cA, rfl, hlc, hcm⟩ := h.form
  have HL := Lib.hid h
  obtain ⟨n, hn⟩ : ∃ n, l.length = n := ⟨_, rfl⟩
  rw [hn] at HL hlc hl ⊢
  have HN := Lib.hid hn
  have mixed : Try.prog.follows .mixedOrders = true := by kernel_rfl
  clear h hn
  go_enter Try.func66, Try.ntmps66
  go_wp2_with fail
  go_loopg [5] n (fun gg s5 wr => ∃ (i : Int), -1 ≤ i ∧ i < (n : Int) ∧ gg = (i + 1).toNat ∧ s5 = .int .i64 i ∧ Hid (∀ (j : Nat) (x y : Pl), i ≤ (j : Int) → l[j]? = some x → l[j + 1]? = some y → x.u ≤ y.u) ∧ Below w.heap.size w wr)
  case atStart => exact ⟨_, by omega, by omega, by omega, rfl, fun j x y h hx hy => by have := (List.getElem?_eq_some_iff.1 hy).1; have := HN.out; omega, Below.refl _ _⟩
  case round =>
    obtain ⟨i, hi1, hi2, hg, rfl, HR, hbw⟩ := hrel
    have HG := Lib.hid hg
    have HB := Lib.hid hbw
    have HLR := Lib.hid (HL.out.keep hbw)
    clear hg hbw
    by_cases hpos : 0 < i
    · obtain ⟨k, rfl⟩ : ∃ k : Nat, i = (k : Int) := ⟨i.toNat, by omega⟩
      obtain ⟨k1, hk1⟩ : ∃ k1, k = k1 + 1 := ⟨k - 1, by omega⟩
      have hkn : (k : Int) < (n : Int) := hi2
      have hk0 : (0 : Int) ≤ (k : Int) := by omega
      have hk1z : (k1 : Int) < (n : Int) := by omega
      have hk10 : (0 : Int) ≤ (k1 : Int) := by omega
      have hkk : (k : Int) - 1 = (k1 : Int) := by omega
      have hw64 : IntKind.i64.wrap (k1 : Int) = (k1 : Int) := IntWalk.i64_in _ (by omega)
      obtain ⟨y, hy⟩ := exP_at (xs := l) (k := k) (by rw [HN.out]; omega)
      obtain ⟨x, hx⟩ := exP_at (xs := l) (k := k1) (by rw [HN.out]; omega)
      obtain ⟨b, off, B, d, hA, hbl, _, ⟨c0, c1, c2, c3⟩, _⟩ := HLR.out.at_ hy
      subst hA
      obtain ⟨b', off', B', d', hA', _, _, ⟨e0, e1, e2, e3⟩, _⟩ := HLR.out.at_ hx
      injection hA' with hA'
      injection hA' with hA' hA''
      subst hA' hA''
      simp only at c0 c1 c2 c3 e0 e1 e2 e3
      have HXY := Lib.hid (show Rises l → x.u ≤ y.u from fun h => h k1 x y hx (by rw [← hk1]; exact hy))
      have HNX : Hid (x.u ≤ y.u → ∀ (j : Nat) (x y : Pl), (k1 : Int) ≤ (j : Int) → l[j]? = some x → l[j + 1]? = some y → x.u ≤ y.u) := fun hle j x' y' hj hx' hy' => by
        by_cases e : j = k1
        · subst e
          rw [hx] at hx'
          rw [← hk1, hy] at hy'
          cases hx'; cases hy'
          exact hle
        · exact HR j x' y' (by omega) hx' hy'
      obtain ⟨yu, ys, yc, yp⟩ := y
      obtain ⟨xu, xs, xc, xp⟩ := x
      simp only at *
      have HC := Lib.hid (fun W => HCU.out (.slice B yp.length d) (.slice B' xp.length d') ⟨yu, ys, yc, yp⟩ ⟨xu, xs, xc, xp⟩ W)
      simp only at HC
      obtain ⟨np, hnp⟩ : ∃ np, yp.length = np := ⟨_, rfl⟩
      obtain ⟨nq, hnq⟩ : ∃ nq, xp.length = nq := ⟨_, rfl⟩
      rw [hnp] at c3 HC
      rw [hnq] at e3 HC
      have lb := hbl
      have HKL := Lib.hid hk1
      clear hk1 hx hy hnp hnq
      by_cases hlt : yu < xu
      · rw [cmp_neg hlt] at HC
        have HNO := Lib.hid (show ¬ Rises l from fun h => by have := HXY.out h; omega)
        clear hlt
        go_wp2_with fail
        refine wp_region_held_drew (S := fun w' => w'.cell? ⟨b, off + k * 4, none⟩ = some (.int .i64 yu) ∧ w'.cell? ⟨b, off + k * 4 + 1, none⟩ = some (.int .i64 ys) ∧ w'.cell? ⟨b, off + k * 4 + 2, none⟩ = some (.int .i64 yc) ∧ w'.cell? ⟨b, off + k * 4 + 3, none⟩ = some (.slice B np d) ∧ w'.cell? ⟨b, off + k1 * 4, none⟩ = some (.int .i64 xu) ∧ w'.cell? ⟨b, off + k1 * 4 + 1, none⟩ = some (.int .i64 xs) ∧ w'.cell? ⟨b, off + k1 * 4 + 2, none⟩ = some (.int .i64 xc) ∧ w'.cell? ⟨b, off + k1 * 4 + 3, none⟩ = some ((.slice B' nq d'))) (by kernel_rfl) ?_ (fun hHeld => ?_)
        · exact ⟨c0, c1, c2, c3, e0, e1, e2, e3⟩
        refine wpAnyH_take (i := 0) (oi := ⟨some 13, _, _, _, _, _⟩) (v := ?_) rfl (by kernel_rfl) (by kernel_rfl) (by kernel_rfl) (fun _ _ _ h => h) (Or.inl ⟨by kernel_rfl, ?_⟩) (by assumption) ?_
        rotate_left
        · (intro w hSw; (try dsimp only at hSw); go_simp; try with_reducible rfl)
        (try simp only [Act.put, List.setIfInBounds_toArray, List.set_cons_zero, List.set_cons_succ])
        refine wpAnyH_take (i := 1) (oi := ⟨some 14, _, _, _, _, _⟩) (v := ?_) rfl (by kernel_rfl) (by kernel_rfl) (by kernel_rfl) (fun _ _ _ h => h) (Or.inl ⟨by kernel_rfl, ?_⟩) (by assumption) ?_
        rotate_left
        · (intro w hSw; (try dsimp only at hSw); go_simp; try with_reducible rfl)
        (try simp only [Act.put, List.setIfInBounds_toArray, List.set_cons_zero, List.set_cons_succ])
        refine wpAnyH_take (i := 2) (oi := ⟨some 15, _, _, _, _, _⟩) (v := ?_) rfl (by kernel_rfl) (by kernel_rfl) (by kernel_rfl) (fun _ _ _ h => h) (Or.inl ⟨by kernel_rfl, ?_⟩) (by assumption) ?_
        rotate_left
        · (intro w hSw; (try dsimp only at hSw); go_simp; try with_reducible rfl)
        (try simp only [Act.put, List.setIfInBounds_toArray, List.set_cons_zero, List.set_cons_succ])
        refine wpAnyH_take (i := 3) (oi := ⟨some 16, _, _, _, _, _⟩) (v := ?_) rfl (by kernel_rfl) (by kernel_rfl) (by kernel_rfl) (fun _ _ _ h => h) (Or.inl ⟨by kernel_rfl, ?_⟩) (by assumption) ?_
        rotate_left
        · (intro w hSw; (try dsimp only at hSw); go_simp; try with_reducible rfl)
        (try simp only [Act.put, List.setIfInBounds_toArray, List.set_cons_zero, List.set_cons_succ])
        refine wpAnyH_take (i := 4) (oi := ⟨some 17, _, _, _, _, _⟩) (v := ?_) rfl (by kernel_rfl) (by kernel_rfl) (by kernel_rfl) (fun _ _ _ h => h) (Or.inl ⟨by kernel_rfl, ?_⟩) (by assumption) ?_
        rotate_left
        · (intro w hSw; (try dsimp only at hSw); go_simp; try with_reducible rfl)
        (try simp only [Act.put, List.setIfInBounds_toArray, List.set_cons_zero, List.set_cons_succ])
        refine wpAnyH_take (i := 5) (oi := ⟨some 18, _, _, _, _, _⟩) (v := ?_) rfl (by kernel_rfl) (by kernel_rfl) (by kernel_rfl) (fun _ _ _ h => h) (Or.inl ⟨by kernel_rfl, ?_⟩) (by assumption) ?_
        rotate_left
        · (intro w hSw; (try dsimp only at hSw); go_simp; try with_reducible rfl)
        (try simp only [Act.put, List.setIfInBounds_toArray, List.set_cons_zero, List.set_cons_succ])
        refine wpAnyH_take (i := 6) (oi := ⟨some 19, _, _, _, _, _⟩) (v := ?_) rfl (by kernel_rfl) (by kernel_rfl) (by kernel_rfl) (fun _ _ _ h => h) (Or.inl ⟨by kernel_rfl, ?_⟩) (by assumption) ?_
        rotate_left
        · (intro w hSw; (try dsimp only at hSw); go_simp; try with_reducible rfl)
        (try simp only [Act.put, List.setIfInBounds_toArray, List.set_cons_zero, List.set_cons_succ])
        refine wpAnyH_take (i := 7) (oi := ⟨some 20, _, _, _, _, _⟩) (v := ?_) rfl (by kernel_rfl) (by kernel_rfl) (by kernel_rfl) (fun _ _ _ h => h) (Or.inl ⟨by kernel_rfl, ?_⟩) (by assumption) ?_
        rotate_left
        · (intro w hSw; (try dsimp only at hSw); go_simp; try with_reducible rfl)
        (try simp only [Act.put, List.setIfInBounds_toArray, List.set_cons_zero, List.set_cons_succ])
        refine wpAnyH_take (i := 8) (oi := ⟨some 21, _, _, _, _, _⟩) (v := ?_) rfl (by kernel_rfl) (by kernel_rfl) (by kernel_rfl) (fun _ _ _ h => h) (Or.inl ⟨by kernel_rfl, ?_⟩) (by assumption) ?_
        rotate_left
        · (intro w hSw; (try dsimp only at hSw); go_simp; try with_reducible rfl)
        (try simp only [Act.put, List.setIfInBounds_toArray, List.set_cons_zero, List.set_cons_succ])
        refine wpAnyH_take (i := 9) (oi := ⟨some 22, _, _, _, _, _⟩) (v := ?_) rfl (by kernel_rfl) (by kernel_rfl) (by kernel_rfl) (fun _ _ _ h => h) (Or.inl ⟨by kernel_rfl, ?_⟩) (by assumption) ?_
        rotate_left
        · (intro w hSw; (try dsimp only at hSw); go_simp; try with_reducible rfl)
        (try simp only [Act.put, List.setIfInBounds_toArray, List.set_cons_zero, List.set_cons_succ])
        refine wpAnyH_ready (rs := [10]) (by kernel_rfl) (by simp) ?_
        refine AllReadyH.cons (o := ⟨some 23, _, _, _, _, _⟩) rfl (fun K hK => ?_) AllReadyH.nil
        rw [if_pos (by kernel_rfl)]
        go_simp
        go_at_fn 67; refine (HC.out _).mono ?_; rintro e wq ⟨rfl, hbr⟩
        refine hK.out _ _ ?_ (fun hHeld => ?_)
        · exact ⟨(hbr.cell (p := ⟨b, off + k * 4, none⟩) lb).trans c0, (hbr.cell (p := ⟨b, off + k * 4 + 1, none⟩) lb).trans c1, (hbr.cell (p := ⟨b, off + k * 4 + 2, none⟩) lb).trans c2, (hbr.cell (p := ⟨b, off + k * 4 + 3, none⟩) lb).trans c3, (hbr.cell (p := ⟨b, off + k1 * 4, none⟩) lb).trans e0, (hbr.cell (p := ⟨b, off + k1 * 4 + 1, none⟩) lb).trans e1, (hbr.cell (p := ⟨b, off + k1 * 4 + 2, none⟩) lb).trans e2, (hbr.cell (p := ⟨b, off + k1 * 4 + 3, none⟩) lb).trans e3⟩
        clear hK K
        (try simp only [Act.put, List.setIfInBounds_toArray, List.set_cons_zero, List.set_cons_succ])
        refine wpAnyH_take (i := 11) (oi := ⟨some 24, _, _, _, _, _⟩) (v := ?_) rfl (by kernel_rfl) (by kernel_rfl) (by kernel_rfl) (fun _ _ _ h => h) (Or.inl ⟨by kernel_rfl, ?_⟩) (by assumption) ?_
        rotate_left
        · (intro w hSw; (try dsimp only at hSw); go_simp; try with_reducible rfl)
        (try simp only [Act.put, List.setIfInBounds_toArray, List.set_cons_zero, List.set_cons_succ])
        refine wpAnyH_done (by kernel_rfl) ?_ _
        have HB2 := Lib.hid (HB.out.drew.trans (hbr.mono HB.out.size))
        clear hbr
        go_wp2_with fail
        go_ret
        exact RetIff.no HNO.out HB2.out
      · have hcn := cmp_nonneg hlt
        obtain ⟨r, hr⟩ : ∃ r, cmpI yu xu = r := ⟨_, rfl⟩
        rw [hr] at HC hcn
        have hr0 : decide (r < 0) = false := decide_eq_false (by omega)
        have HNX2 : Hid (∀ (j : Nat) (x y : Pl), (k1 : Int) ≤ (j : Int) → l[j]? = some x → l[j + 1]? = some y → x.u ≤ y.u) := HNX (by omega)
        clear hr hlt
        go_wp2_with fail
        refine wp_region_held_drew (S := fun w' => w'.cell? ⟨b, off + k * 4, none⟩ = some (.int .i64 yu) ∧ w'.cell? ⟨b, off + k * 4 + 1, none⟩ = some (.int .i64 ys) ∧ w'.cell? ⟨b, off + k * 4 + 2, none⟩ = some (.int .i64 yc) ∧ w'.cell? ⟨b, off + k * 4 + 3, none⟩ = some (.slice B np d) ∧ w'.cell? ⟨b, off + k1 * 4, none⟩ = some (.int .i64 xu) ∧ w'.cell? ⟨b, off + k1 * 4 + 1, none⟩ = some (.int .i64 xs) ∧ w'.cell? ⟨b, off + k1 * 4 + 2, none⟩ = some (.int .i64 xc) ∧ w'.cell? ⟨b, off + k1 * 4 + 3, none⟩ = some ((.slice B' nq d'))) (by kernel_rfl) ?_ (fun hHeld => ?_)
        · exact ⟨c0, c1, c2, c3, e0, e1, e2, e3⟩
        refine wpAnyH_take (i := 0) (oi := ⟨some 13, _, _, _, _, _⟩) (v := ?_) rfl (by kernel_rfl) (by kernel_rfl) (by kernel_rfl) (fun _ _ _ h => h) (Or.inl ⟨by kernel_rfl, ?_⟩) (by assumption) ?_
        rotate_left
        · (intro w hSw; (try dsimp only at hSw); go_simp; try with_reducible rfl)
        (try simp only [Act.put, List.setIfInBounds_toArray, List.set_cons_zero, List.set_cons_succ])
        refine wpAnyH_take (i := 1) (oi := ⟨some 14, _, _, _, _, _⟩) (v := ?_) rfl (by kernel_rfl) (by kernel_rfl) (by kernel_rfl) (fun _ _ _ h => h) (Or.inl ⟨by kernel_rfl, ?_⟩) (by assumption) ?_
        rotate_left
        · (intro w hSw; (try dsimp only at hSw); go_simp; try with_reducible rfl)
        (try simp only [Act.put, List.setIfInBounds_toArray, List.set_cons_zero, List.set_cons_succ])
        refine wpAnyH_take (i := 2) (oi := ⟨some 15, _, _, _, _, _⟩) (v := ?_) rfl (by kernel_rfl) (by kernel_rfl) (by kernel_rfl) (fun _ _ _ h => h) (Or.inl ⟨by kernel_rfl, ?_⟩) (by assumption) ?_
        rotate_left
        · (intro w hSw; (try dsimp only at hSw); go_simp; try with_reducible rfl)
        (try simp only [Act.put, List.setIfInBounds_toArray, List.set_cons_zero, List.set_cons_succ])
        refine wpAnyH_take (i := 3) (oi := ⟨some 16, _, _, _, _, _⟩) (v := ?_) rfl (by kernel_rfl) (by kernel_rfl) (by kernel_rfl) (fun _ _ _ h => h) (Or.inl ⟨by kernel_rfl, ?_⟩) (by assumption) ?_
        rotate_left
        · (intro w hSw; (try dsimp only at hSw); go_simp; try with_reducible rfl)
        (try simp only [Act.put, List.setIfInBounds_toArray, List.set_cons_zero, List.set_cons_succ])
        refine wpAnyH_take (i := 4) (oi := ⟨some 17, _, _, _, _, _⟩) (v := ?_) rfl (by kernel_rfl) (by kernel_rfl) (by kernel_rfl) (fun _ _ _ h => h) (Or.inl ⟨by kernel_rfl, ?_⟩) (by assumption) ?_
        rotate_left
        · (intro w hSw; (try dsimp only at hSw); go_simp; try with_reducible rfl)
        (try simp only [Act.put, List.setIfInBounds_toArray, List.set_cons_zero, List.set_cons_succ])
        refine wpAnyH_take (i := 5) (oi := ⟨some 18, _, _, _, _, _⟩) (v := ?_) rfl (by kernel_rfl) (by kernel_rfl) (by kernel_rfl) (fun _ _ _ h => h) (Or.inl ⟨by kernel_rfl, ?_⟩) (by assumption) ?_
        rotate_left
        · (intro w hSw; (try dsimp only at hSw); go_simp; try with_reducible rfl)
        (try simp only [Act.put, List.setIfInBounds_toArray, List.set_cons_zero, List.set_cons_succ])
        refine wpAnyH_take (i := 6) (oi := ⟨some 19, _, _, _, _, _⟩) (v := ?_) rfl (by kernel_rfl) (by kernel_rfl) (by kernel_rfl) (fun _ _ _ h => h) (Or.inl ⟨by kernel_rfl, ?_⟩) (by assumption) ?_
        rotate_left
        · (intro w hSw; (try dsimp only at hSw); go_simp; try with_reducible rfl)
        (try simp only [Act.put, List.setIfInBounds_toArray, List.set_cons_zero, List.set_cons_succ])
        refine wpAnyH_take (i := 7) (oi := ⟨some 20, _, _, _, _, _⟩) (v := ?_) rfl (by kernel_rfl) (by kernel_rfl) (by kernel_rfl) (fun _ _ _ h => h) (Or.inl ⟨by kernel_rfl, ?_⟩) (by assumption) ?_
        rotate_left
        · (intro w hSw; (try dsimp only at hSw); go_simp; try with_reducible rfl)
        (try simp only [Act.put, List.setIfInBounds_toArray, List.set_cons_zero, List.set_cons_succ])
        refine wpAnyH_take (i := 8) (oi := ⟨some 21, _, _, _, _, _⟩) (v := ?_) rfl (by kernel_rfl) (by kernel_rfl) (by kernel_rfl) (fun _ _ _ h => h) (Or.inl ⟨by kernel_rfl, ?_⟩) (by assumption) ?_
        rotate_left
        · (intro w hSw; (try dsimp only at hSw); go_simp; try with_reducible rfl)
        (try simp only [Act.put, List.setIfInBounds_toArray, List.set_cons_zero, List.set_cons_succ])
        refine wpAnyH_take (i := 9) (oi := ⟨some 22, _, _, _, _, _⟩) (v := ?_) rfl (by kernel_rfl) (by kernel_rfl) (by kernel_rfl) (fun _ _ _ h => h) (Or.inl ⟨by kernel_rfl, ?_⟩) (by assumption) ?_
        rotate_left
        · (intro w hSw; (try dsimp only at hSw); go_simp; try with_reducible rfl)
        (try simp only [Act.put, List.setIfInBounds_toArray, List.set_cons_zero, List.set_cons_succ])
        refine wpAnyH_ready (rs := [10]) (by kernel_rfl) (by simp) ?_
        refine AllReadyH.cons (o := ⟨some 23, _, _, _, _, _⟩) rfl (fun K hK => ?_) AllReadyH.nil
        rw [if_pos (by kernel_rfl)]
        go_simp
        go_at_fn 67; refine (HC.out _).mono ?_; rintro e wq ⟨rfl, hbr⟩
        refine hK.out _ _ ?_ (fun hHeld => ?_)
        · exact ⟨(hbr.cell (p := ⟨b, off + k * 4, none⟩) lb).trans c0, (hbr.cell (p := ⟨b, off + k * 4 + 1, none⟩) lb).trans c1, (hbr.cell (p := ⟨b, off + k * 4 + 2, none⟩) lb).trans c2, (hbr.cell (p := ⟨b, off + k * 4 + 3, none⟩) lb).trans c3, (hbr.cell (p := ⟨b, off + k1 * 4, none⟩) lb).trans e0, (hbr.cell (p := ⟨b, off + k1 * 4 + 1, none⟩) lb).trans e1, (hbr.cell (p := ⟨b, off + k1 * 4 + 2, none⟩) lb).trans e2, (hbr.cell (p := ⟨b, off + k1 * 4 + 3, none⟩) lb).trans e3⟩
        clear hK K
        (try simp only [Act.put, List.setIfInBounds_toArray, List.set_cons_zero, List.set_cons_succ])
        refine wpAnyH_take (i := 11) (oi := ⟨some 24, _, _, _, _, _⟩) (v := ?_) rfl (by kernel_rfl) (by kernel_rfl) (by kernel_rfl) (fun _ _ _ h => h) (Or.inl ⟨by kernel_rfl, ?_⟩) (by assumption) ?_
        rotate_left
        · (intro w hSw; (try dsimp only at hSw); go_simp; try with_reducible rfl)
        (try simp only [Act.put, List.setIfInBounds_toArray, List.set_cons_zero, List.set_cons_succ])
        refine wpAnyH_done (by kernel_rfl) ?_ _
        have HB2 := Lib.hid (HB.out.drew.trans (hbr.mono HB.out.size))
        clear hbr
        go_wp2_with fail
        go_roundg (k1 + 1)
        case measure => have := HG.out; have := HKL.out; omega
        case rel => exact ⟨(k1 : Int), by omega, by omega, by omega, by go_num, HNX2, HB2.out⟩
    · have hpos' : decide (0 < i) = false := decide_eq_false hpos
      have HYE := Lib.hid (show Rises l from fun j x y hx hy => HR j x y (by omega) hx hy)
      go_wp2
      go_ret
      exact RetIff.yes HYE.out HB.out

theorem ints_wants {l : List Pl} (h : ∀ x ∈ l, PlOk x ∧ x.ps.length ≤ 1000) : IntsS (wantsT l) := by
  intro s hs
  obtain ⟨x, hx, rfl⟩ := List.mem_map.1 hs
  obtain ⟨h1, h2, _⟩ := (h x hx).1
  exact ⟨h1, h2⟩

set_option maxRecDepth 100000 in
set_option maxHeartbeats 4000000 in
theorem rightUnits_any (f : Int) (m : Nat) (v : Value) (l : List Pl) (w : World) (h : PlsAt w v l) (hL : WideL l) :
    Calls Try.prog 46 #[planA f m v] w (RetIff (UnitsOk f l) w) := by
  have hl : l.length ≤ 1200000 := hL.len
  have HWT := Lib.hid (fun W h => wants_any f m v l W h hl)
  have HCK := Lib.hid (fun v W h => check_any f v (wantsT l) W h (ints_wants hL.ok))
  have HIS := Lib.hid (fun (hl : l.length ≤ 1000) W h => calls_iff (isSorted_any v l W h hl))
  have HH := Lib.hid h
  unfold planA at HWT
  obtain ⟨w1, P, hw1, hP, hPl, hb1, hbox⟩ := box_any w #[.int .i64 f, .int .u32 m, v] 25
  have HB1 := Lib.hid hb1
  have HPB := Lib.hid hbox
  obtain ⟨r0, r1, r2⟩ := three_heads hbox
  have lP := heap_lt hbox
  have mixed : Try.prog.follows .mixedOrders = true := by kernel_rfl
  obtain ⟨E, hE⟩ : ∃ E, chkT f (wantsT l) = E := ⟨_, rfl⟩
  rw [hE] at HCK
  have HEQ := Lib.hid (show UnitsOk f l ↔ E = 0 ∧ Rises l from ⟨fun h => ⟨by rw [← hE]; exact h.chk, h.rises⟩, fun h => ⟨by rw [hE]; exact h.1, h.2⟩⟩)
  have HSM := Lib.hid (show E = 0 → l.length ≤ 1000 from fun h => by have := (hL.light (by rw [hE]; exact h)).len; omega)
  clear h hL hb1 hbox hE
  unfold planA
  by_cases hE0 : E = 0
  · have he : (E == 0) = true := by simpa using hE0
    by_cases hri : Rises l
    · have HIC := Lib.hid (fun W h => (HIS.out (HSM.out hE0) W h).1 hri)
      have HYE := Lib.hid (HEQ.out.2 ⟨hE0, hri⟩)
      clear hri hE0
      go_enter Try.func46, Try.ntmps46
      go_wp2_with fail
      refine wp_region_held_drew (S := fun w' => w'.cell? ⟨P, 0, none⟩ = some (.int .i64 f) ∧ w'.cell? ⟨P, 1, none⟩ = some (.int .u32 m) ∧ w'.cell? ⟨P, 2, none⟩ = some (v)) (by kernel_rfl) ?_ (fun hHeld => ?_)
      · exact ⟨r0, r1, r2⟩
      refine wpAnyH_take (i := 0) (oi := ⟨some 3, _, _, _, _, _⟩) (v := ?_) rfl (by kernel_rfl) (by kernel_rfl) (by kernel_rfl) (fun _ _ _ h => h) (Or.inl ⟨by kernel_rfl, ?_⟩) (by assumption) ?_
      rotate_left
      · (intro w hSw; (try dsimp only at hSw); go_simp; try with_reducible rfl)
      (try simp only [Act.put, List.setIfInBounds_toArray, List.set_cons_zero, List.set_cons_succ])
      refine wpAnyH_take (i := 1) (oi := ⟨some 4, _, _, _, _, _⟩) (v := ?_) rfl (by kernel_rfl) (by kernel_rfl) (by kernel_rfl) (fun _ _ _ h => h) (Or.inl ⟨by kernel_rfl, ?_⟩) (by assumption) ?_
      rotate_left
      · (intro w hSw; (try dsimp only at hSw); go_simp; try with_reducible rfl)
      (try simp only [Act.put, List.setIfInBounds_toArray, List.set_cons_zero, List.set_cons_succ])
      refine wpAnyH_take (i := 2) (oi := ⟨some 5, _, _, _, _, _⟩) (v := ?_) rfl (by kernel_rfl) (by kernel_rfl) (by kernel_rfl) (fun _ _ _ h => h) (Or.inl ⟨by kernel_rfl, ?_⟩) (by assumption) ?_
      rotate_left
      · (intro w hSw; (try dsimp only at hSw); go_simp; try with_reducible rfl)
      (try simp only [Act.put, List.setIfInBounds_toArray, List.set_cons_zero, List.set_cons_succ])
      refine wpAnyH_ready (rs := [3]) (by kernel_rfl) (by simp) ?_
      refine AllReadyH.cons (o := ⟨some 6, _, _, _, _, _⟩) rfl (fun K hK => ?_) AllReadyH.nil
      rw [if_pos (by kernel_rfl)]
      go_simp
      go_at_call 65; refine (HWT.out _ (HH.out.keep HB1.out.drew)).mono ?_; rintro e wq ⟨vw, rfl, hsw, hb3⟩
      refine hK.out _ _ ?_ (fun hHeld => ?_)
      · exact ⟨(hb3.cell (p := ⟨P, 0, none⟩) lP).trans r0, (hb3.cell (p := ⟨P, 1, none⟩) lP).trans r1, (hb3.cell (p := ⟨P, 2, none⟩) lP).trans r2⟩
      clear hK K
      (try simp only [Act.put, List.setIfInBounds_toArray, List.set_cons_zero, List.set_cons_succ])
      refine wpAnyH_ready (rs := [4]) (by kernel_rfl) (by simp) ?_
      refine AllReadyH.cons (o := ⟨some 7, _, _, _, _, _⟩) rfl (fun K hK => ?_) AllReadyH.nil
      rw [if_pos (by kernel_rfl)]
      go_simp
      go_at_call 55; refine (HCK.out _ _ hsw).mono ?_; rintro e wq2 ⟨rfl, hb4⟩
      have hb5 := hb3.trans (hb4.mono hb3.size)
      refine hK.out _ _ ?_ (fun hHeld => ?_)
      · exact ⟨(hb5.cell (p := ⟨P, 0, none⟩) lP).trans r0, (hb5.cell (p := ⟨P, 1, none⟩) lP).trans r1, (hb5.cell (p := ⟨P, 2, none⟩) lP).trans r2⟩
      clear hK K
      (try simp only [Act.put, List.setIfInBounds_toArray, List.set_cons_zero, List.set_cons_succ])
      refine wpAnyH_take (i := 5) (oi := ⟨some 8, _, _, _, _, _⟩) (v := ?_) rfl (by kernel_rfl) (by kernel_rfl) (by kernel_rfl) (fun _ _ _ h => h) (Or.inl ⟨by kernel_rfl, ?_⟩) (by assumption) ?_
      rotate_left
      · (intro w hSw; (try dsimp only at hSw); go_simp; try with_reducible rfl)
      (try simp only [Act.put, List.setIfInBounds_toArray, List.set_cons_zero, List.set_cons_succ])
      refine wpAnyH_take (i := 6) (oi := ⟨some 9, _, _, _, _, _⟩) (v := ?_) rfl (by kernel_rfl) (by kernel_rfl) (by kernel_rfl) (fun _ _ _ h => h) (Or.inl ⟨by kernel_rfl, ?_⟩) (by assumption) ?_
      rotate_left
      · (intro w hSw; (try dsimp only at hSw); go_simp; try with_reducible rfl)
      (try simp only [Act.put, List.setIfInBounds_toArray, List.set_cons_zero, List.set_cons_succ])
      refine wpAnyH_take (i := 7) (oi := ⟨some 10, _, _, _, _, _⟩) (v := ?_) rfl (by kernel_rfl) (by kernel_rfl) (by kernel_rfl) (fun _ _ _ h => h) (Or.inl ⟨by kernel_rfl, ?_⟩) (by assumption) ?_
      rotate_left
      · (intro w hSw; (try dsimp only at hSw); go_simp; try with_reducible rfl)
      (try simp only [Act.put, List.setIfInBounds_toArray, List.set_cons_zero, List.set_cons_succ])
      refine wpAnyH_take (i := 8) (oi := ⟨some 11, _, _, _, _, _⟩) (v := ?_) rfl (by kernel_rfl) (by kernel_rfl) (by kernel_rfl) (fun _ _ _ h => h) (Or.inl ⟨by kernel_rfl, ?_⟩) (by assumption) ?_
      rotate_left
      · (intro w hSw; (try dsimp only at hSw); go_simp; try with_reducible rfl)
      (try simp only [Act.put, List.setIfInBounds_toArray, List.set_cons_zero, List.set_cons_succ])
      refine wpAnyH_ready (rs := [9]) (by kernel_rfl) (by simp) ?_
      refine AllReadyH.cons (o := ⟨some 12, _, _, _, _, _⟩) rfl (fun K hK => ?_) AllReadyH.nil
      rw [if_pos (by kernel_rfl)]
      go_simp
      go_at_call 66; refine (HIC.out _ (HH.out.keep (HB1.out.drew.trans (hb5.mono HB1.out.size)))).mono ?_; rintro e wq3 ⟨rfl, hb6⟩
      have hb7 := hb5.trans (hb6.mono hb5.size)
      refine hK.out _ _ ?_ (fun hHeld => ?_)
      · exact ⟨(hb7.cell (p := ⟨P, 0, none⟩) lP).trans r0, (hb7.cell (p := ⟨P, 1, none⟩) lP).trans r1, (hb7.cell (p := ⟨P, 2, none⟩) lP).trans r2⟩
      clear hK K
      (try simp only [Act.put, List.setIfInBounds_toArray, List.set_cons_zero, List.set_cons_succ])
      refine wpAnyH_take (i := 10) (oi := ⟨some 13, _, _, _, _, _⟩) (v := ?_) rfl (by kernel_rfl) (by kernel_rfl) (by kernel_rfl) (fun _ _ _ h => h) (Or.inl ⟨by kernel_rfl, ?_⟩) (by assumption) ?_
      rotate_left
      · (intro w hSw; (try dsimp only at hSw); go_simp; try with_reducible rfl)
      (try simp only [Act.put, List.setIfInBounds_toArray, List.set_cons_zero, List.set_cons_succ])
      refine wpAnyH_take (i := 11) (oi := ⟨some 2, _, _, _, _, _⟩) (v := ?_) rfl (by kernel_rfl) (by kernel_rfl) (by kernel_rfl) (fun _ _ _ h => h) (Or.inl ⟨by kernel_rfl, ?_⟩) (by assumption) ?_
      rotate_left
      · (intro w hSw; (try dsimp only at hSw); go_simp; try with_reducible rfl)
      (try simp only [Act.put, List.setIfInBounds_toArray, List.set_cons_zero, List.set_cons_succ])
      refine wpAnyH_done (by kernel_rfl) ?_ _
      have HB9 := Lib.hid (HB1.out.drew.trans (hb7.mono HB1.out.size))
      go_wp2_with fail
      go_ret
      exact RetIff.yes HYE.out HB9.out
    · have HIC := Lib.hid (fun W h => (HIS.out (HSM.out hE0) W h).2 hri)
      have HNO := Lib.hid (show ¬ UnitsOk f l from fun h => hri h.rises)
      clear hri hE0
      go_enter Try.func46, Try.ntmps46
      go_wp2_with fail
      refine wp_region_held_drew (S := fun w' => w'.cell? ⟨P, 0, none⟩ = some (.int .i64 f) ∧ w'.cell? ⟨P, 1, none⟩ = some (.int .u32 m) ∧ w'.cell? ⟨P, 2, none⟩ = some (v)) (by kernel_rfl) ?_ (fun hHeld => ?_)
      · exact ⟨r0, r1, r2⟩
      refine wpAnyH_take (i := 0) (oi := ⟨some 3, _, _, _, _, _⟩) (v := ?_) rfl (by kernel_rfl) (by kernel_rfl) (by kernel_rfl) (fun _ _ _ h => h) (Or.inl ⟨by kernel_rfl, ?_⟩) (by assumption) ?_
      rotate_left
      · (intro w hSw; (try dsimp only at hSw); go_simp; try with_reducible rfl)
      (try simp only [Act.put, List.setIfInBounds_toArray, List.set_cons_zero, List.set_cons_succ])
      refine wpAnyH_take (i := 1) (oi := ⟨some 4, _, _, _, _, _⟩) (v := ?_) rfl (by kernel_rfl) (by kernel_rfl) (by kernel_rfl) (fun _ _ _ h => h) (Or.inl ⟨by kernel_rfl, ?_⟩) (by assumption) ?_
      rotate_left
      · (intro w hSw; (try dsimp only at hSw); go_simp; try with_reducible rfl)
      (try simp only [Act.put, List.setIfInBounds_toArray, List.set_cons_zero, List.set_cons_succ])
      refine wpAnyH_take (i := 2) (oi := ⟨some 5, _, _, _, _, _⟩) (v := ?_) rfl (by kernel_rfl) (by kernel_rfl) (by kernel_rfl) (fun _ _ _ h => h) (Or.inl ⟨by kernel_rfl, ?_⟩) (by assumption) ?_
      rotate_left
      · (intro w hSw; (try dsimp only at hSw); go_simp; try with_reducible rfl)
      (try simp only [Act.put, List.setIfInBounds_toArray, List.set_cons_zero, List.set_cons_succ])
      refine wpAnyH_ready (rs := [3]) (by kernel_rfl) (by simp) ?_
      refine AllReadyH.cons (o := ⟨some 6, _, _, _, _, _⟩) rfl (fun K hK => ?_) AllReadyH.nil
      rw [if_pos (by kernel_rfl)]
      go_simp
      go_at_call 65; refine (HWT.out _ (HH.out.keep HB1.out.drew)).mono ?_; rintro e wq ⟨vw, rfl, hsw, hb3⟩
      refine hK.out _ _ ?_ (fun hHeld => ?_)
      · exact ⟨(hb3.cell (p := ⟨P, 0, none⟩) lP).trans r0, (hb3.cell (p := ⟨P, 1, none⟩) lP).trans r1, (hb3.cell (p := ⟨P, 2, none⟩) lP).trans r2⟩
      clear hK K
      (try simp only [Act.put, List.setIfInBounds_toArray, List.set_cons_zero, List.set_cons_succ])
      refine wpAnyH_ready (rs := [4]) (by kernel_rfl) (by simp) ?_
      refine AllReadyH.cons (o := ⟨some 7, _, _, _, _, _⟩) rfl (fun K hK => ?_) AllReadyH.nil
      rw [if_pos (by kernel_rfl)]
      go_simp
      go_at_call 55; refine (HCK.out _ _ hsw).mono ?_; rintro e wq2 ⟨rfl, hb4⟩
      have hb5 := hb3.trans (hb4.mono hb3.size)
      refine hK.out _ _ ?_ (fun hHeld => ?_)
      · exact ⟨(hb5.cell (p := ⟨P, 0, none⟩) lP).trans r0, (hb5.cell (p := ⟨P, 1, none⟩) lP).trans r1, (hb5.cell (p := ⟨P, 2, none⟩) lP).trans r2⟩
      clear hK K
      (try simp only [Act.put, List.setIfInBounds_toArray, List.set_cons_zero, List.set_cons_succ])
      refine wpAnyH_take (i := 5) (oi := ⟨some 8, _, _, _, _, _⟩) (v := ?_) rfl (by kernel_rfl) (by kernel_rfl) (by kernel_rfl) (fun _ _ _ h => h) (Or.inl ⟨by kernel_rfl, ?_⟩) (by assumption) ?_
      rotate_left
      · (intro w hSw; (try dsimp only at hSw); go_simp; try with_reducible rfl)
      (try simp only [Act.put, List.setIfInBounds_toArray, List.set_cons_zero, List.set_cons_succ])
      refine wpAnyH_take (i := 6) (oi := ⟨some 9, _, _, _, _, _⟩) (v := ?_) rfl (by kernel_rfl) (by kernel_rfl) (by kernel_rfl) (fun _ _ _ h => h) (Or.inl ⟨by kernel_rfl, ?_⟩) (by assumption) ?_
      rotate_left
      · (intro w hSw; (try dsimp only at hSw); go_simp; try with_reducible rfl)
      (try simp only [Act.put, List.setIfInBounds_toArray, List.set_cons_zero, List.set_cons_succ])
      refine wpAnyH_take (i := 7) (oi := ⟨some 10, _, _, _, _, _⟩) (v := ?_) rfl (by kernel_rfl) (by kernel_rfl) (by kernel_rfl) (fun _ _ _ h => h) (Or.inl ⟨by kernel_rfl, ?_⟩) (by assumption) ?_
      rotate_left
      · (intro w hSw; (try dsimp only at hSw); go_simp; try with_reducible rfl)
      (try simp only [Act.put, List.setIfInBounds_toArray, List.set_cons_zero, List.set_cons_succ])
      refine wpAnyH_take (i := 8) (oi := ⟨some 11, _, _, _, _, _⟩) (v := ?_) rfl (by kernel_rfl) (by kernel_rfl) (by kernel_rfl) (fun _ _ _ h => h) (Or.inl ⟨by kernel_rfl, ?_⟩) (by assumption) ?_
      rotate_left
      · (intro w hSw; (try dsimp only at hSw); go_simp; try with_reducible rfl)
      (try simp only [Act.put, List.setIfInBounds_toArray, List.set_cons_zero, List.set_cons_succ])
      refine wpAnyH_ready (rs := [9]) (by kernel_rfl) (by simp) ?_
      refine AllReadyH.cons (o := ⟨some 12, _, _, _, _, _⟩) rfl (fun K hK => ?_) AllReadyH.nil
      rw [if_pos (by kernel_rfl)]
      go_simp
      go_at_call 66; refine (HIC.out _ (HH.out.keep (HB1.out.drew.trans (hb5.mono HB1.out.size)))).mono ?_; rintro e wq3 ⟨rfl, hb6⟩
      have hb7 := hb5.trans (hb6.mono hb5.size)
      refine hK.out _ _ ?_ (fun hHeld => ?_)
      · exact ⟨(hb7.cell (p := ⟨P, 0, none⟩) lP).trans r0, (hb7.cell (p := ⟨P, 1, none⟩) lP).trans r1, (hb7.cell (p := ⟨P, 2, none⟩) lP).trans r2⟩
      clear hK K
      (try simp only [Act.put, List.setIfInBounds_toArray, List.set_cons_zero, List.set_cons_succ])
      refine wpAnyH_take (i := 10) (oi := ⟨some 13, _, _, _, _, _⟩) (v := ?_) rfl (by kernel_rfl) (by kernel_rfl) (by kernel_rfl) (fun _ _ _ h => h) (Or.inl ⟨by kernel_rfl, ?_⟩) (by assumption) ?_
      rotate_left
      · (intro w hSw; (try dsimp only at hSw); go_simp; try with_reducible rfl)
      (try simp only [Act.put, List.setIfInBounds_toArray, List.set_cons_zero, List.set_cons_succ])
      refine wpAnyH_take (i := 11) (oi := ⟨some 2, _, _, _, _, _⟩) (v := ?_) rfl (by kernel_rfl) (by kernel_rfl) (by kernel_rfl) (fun _ _ _ h => h) (Or.inl ⟨by kernel_rfl, ?_⟩) (by assumption) ?_
      rotate_left
      · (intro w hSw; (try dsimp only at hSw); go_simp; try with_reducible rfl)
      (try simp only [Act.put, List.setIfInBounds_toArray, List.set_cons_zero, List.set_cons_succ])
      refine wpAnyH_done (by kernel_rfl) ?_ _
      have HB9 := Lib.hid (HB1.out.drew.trans (hb7.mono HB1.out.size))
      go_wp2_with fail
      go_ret
      exact RetIff.no HNO.out HB9.out
  · have he : (E == 0) = false := by simpa using hE0
    have HNO := Lib.hid (show ¬ UnitsOk f l from fun h => hE0 (HEQ.out.1 h).1)
    clear hE0
    go_enter Try.func46, Try.ntmps46
    go_wp2_with fail
    refine wp_region_held_drew (S := fun w' => w'.cell? ⟨P, 0, none⟩ = some (.int .i64 f) ∧ w'.cell? ⟨P, 1, none⟩ = some (.int .u32 m) ∧ w'.cell? ⟨P, 2, none⟩ = some (v)) (by kernel_rfl) ?_ (fun hHeld => ?_)
    · exact ⟨r0, r1, r2⟩
    refine wpAnyH_take (i := 0) (oi := ⟨some 3, _, _, _, _, _⟩) (v := ?_) rfl (by kernel_rfl) (by kernel_rfl) (by kernel_rfl) (fun _ _ _ h => h) (Or.inl ⟨by kernel_rfl, ?_⟩) (by assumption) ?_
    rotate_left
    · (intro w hSw; (try dsimp only at hSw); go_simp; try with_reducible rfl)
    (try simp only [Act.put, List.setIfInBounds_toArray, List.set_cons_zero, List.set_cons_succ])
    refine wpAnyH_take (i := 1) (oi := ⟨some 4, _, _, _, _, _⟩) (v := ?_) rfl (by kernel_rfl) (by kernel_rfl) (by kernel_rfl) (fun _ _ _ h => h) (Or.inl ⟨by kernel_rfl, ?_⟩) (by assumption) ?_
    rotate_left
    · (intro w hSw; (try dsimp only at hSw); go_simp; try with_reducible rfl)
    (try simp only [Act.put, List.setIfInBounds_toArray, List.set_cons_zero, List.set_cons_succ])
    refine wpAnyH_take (i := 2) (oi := ⟨some 5, _, _, _, _, _⟩) (v := ?_) rfl (by kernel_rfl) (by kernel_rfl) (by kernel_rfl) (fun _ _ _ h => h) (Or.inl ⟨by kernel_rfl, ?_⟩) (by assumption) ?_
    rotate_left
    · (intro w hSw; (try dsimp only at hSw); go_simp; try with_reducible rfl)
    (try simp only [Act.put, List.setIfInBounds_toArray, List.set_cons_zero, List.set_cons_succ])
    refine wpAnyH_ready (rs := [3]) (by kernel_rfl) (by simp) ?_
    refine AllReadyH.cons (o := ⟨some 6, _, _, _, _, _⟩) rfl (fun K hK => ?_) AllReadyH.nil
    rw [if_pos (by kernel_rfl)]
    go_simp
    go_at_call 65; refine (HWT.out _ (HH.out.keep HB1.out.drew)).mono ?_; rintro e wq ⟨vw, rfl, hsw, hb3⟩
    refine hK.out _ _ ?_ (fun hHeld => ?_)
    · exact ⟨(hb3.cell (p := ⟨P, 0, none⟩) lP).trans r0, (hb3.cell (p := ⟨P, 1, none⟩) lP).trans r1, (hb3.cell (p := ⟨P, 2, none⟩) lP).trans r2⟩
    clear hK K
    (try simp only [Act.put, List.setIfInBounds_toArray, List.set_cons_zero, List.set_cons_succ])
    refine wpAnyH_ready (rs := [4]) (by kernel_rfl) (by simp) ?_
    refine AllReadyH.cons (o := ⟨some 7, _, _, _, _, _⟩) rfl (fun K hK => ?_) AllReadyH.nil
    rw [if_pos (by kernel_rfl)]
    go_simp
    go_at_call 55; refine (HCK.out _ _ hsw).mono ?_; rintro e wq2 ⟨rfl, hb4⟩
    have hb5 := hb3.trans (hb4.mono hb3.size)
    refine hK.out _ _ ?_ (fun hHeld => ?_)
    · exact ⟨(hb5.cell (p := ⟨P, 0, none⟩) lP).trans r0, (hb5.cell (p := ⟨P, 1, none⟩) lP).trans r1, (hb5.cell (p := ⟨P, 2, none⟩) lP).trans r2⟩
    clear hK K
    (try simp only [Act.put, List.setIfInBounds_toArray, List.set_cons_zero, List.set_cons_succ])
    refine wpAnyH_take (i := 5) (oi := ⟨some 8, _, _, _, _, _⟩) (v := ?_) rfl (by kernel_rfl) (by kernel_rfl) (by kernel_rfl) (fun _ _ _ h => h) (Or.inl ⟨by kernel_rfl, ?_⟩) (by assumption) ?_
    rotate_left
    · (intro w hSw; (try dsimp only at hSw); go_simp; try with_reducible rfl)
    (try simp only [Act.put, List.setIfInBounds_toArray, List.set_cons_zero, List.set_cons_succ])
    refine wpAnyH_take (i := 6) (oi := ⟨some 9, _, _, _, _, _⟩) (v := ?_) rfl (by kernel_rfl) (by kernel_rfl) (by kernel_rfl) (fun _ _ _ h => h) (Or.inl ⟨by kernel_rfl, ?_⟩) (by assumption) ?_
    rotate_left
    · (intro w hSw; (try dsimp only at hSw); go_simp; try with_reducible rfl)
    (try simp only [Act.put, List.setIfInBounds_toArray, List.set_cons_zero, List.set_cons_succ])
    refine wpAnyH_take (i := 7) (oi := ⟨some 10, _, _, _, _, _⟩) (v := undef) rfl (by kernel_rfl) (by kernel_rfl) (by kernel_rfl) (fun _ _ _ h => h) (Or.inr ⟨by kernel_rfl, rfl⟩) (by assumption) ?_
    (try simp only [Act.put, List.setIfInBounds_toArray, List.set_cons_zero, List.set_cons_succ])
    refine wpAnyH_take (i := 8) (oi := ⟨some 11, _, _, _, _, _⟩) (v := undef) rfl (by kernel_rfl) (by kernel_rfl) (by kernel_rfl) (fun _ _ _ h => h) (Or.inr ⟨by kernel_rfl, rfl⟩) (by assumption) ?_
    (try simp only [Act.put, List.setIfInBounds_toArray, List.set_cons_zero, List.set_cons_succ])
    refine wpAnyH_take (i := 9) (oi := ⟨some 12, _, _, _, _, _⟩) (v := undef) rfl (by kernel_rfl) (by kernel_rfl) (by kernel_rfl) (fun _ _ _ h => h) (Or.inr ⟨by kernel_rfl, rfl⟩) (by assumption) ?_
    (try simp only [Act.put, List.setIfInBounds_toArray, List.set_cons_zero, List.set_cons_succ])
    refine wpAnyH_take (i := 10) (oi := ⟨some 13, _, _, _, _, _⟩) (v := ?_) rfl (by kernel_rfl) (by kernel_rfl) (by kernel_rfl) (fun _ _ _ h => h) (Or.inl ⟨by kernel_rfl, ?_⟩) (by assumption) ?_
    rotate_left
    · (intro w hSw; (try dsimp only at hSw); go_simp; try with_reducible rfl)
    (try simp only [Act.put, List.setIfInBounds_toArray, List.set_cons_zero, List.set_cons_succ])
    refine wpAnyH_take (i := 11) (oi := ⟨some 2, _, _, _, _, _⟩) (v := ?_) rfl (by kernel_rfl) (by kernel_rfl) (by kernel_rfl) (fun _ _ _ h => h) (Or.inl ⟨by kernel_rfl, ?_⟩) (by assumption) ?_
    rotate_left
    · (intro w hSw; (try dsimp only at hSw); go_simp; try with_reducible rfl)
    (try simp only [Act.put, List.setIfInBounds_toArray, List.set_cons_zero, List.set_cons_succ])
    refine wpAnyH_done (by kernel_rfl) ?_ _
    have HB9 := Lib.hid (HB1.out.drew.trans (hb5.mono HB1.out.size))
    go_wp2_with fail
    go_ret
    exact RetIff.no HNO.out HB9.out
end Go.Proofs.Ytkgkanmccaodfaa
