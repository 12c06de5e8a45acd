/-
  rightPlaces of the program.
  Conditions: the slice reads as places; the numbers are of their kinds.
-/
import Derived.Test.YtpjmdnhoiobedaaSplit
set_option linter.unusedVariables false
namespace Go.Proofs.Ytpjmdnhoiobedaa
open Go.RowKit Go.Sort

theorem ws_whole {f : Int} {m : Nat} {x : Pl} (h : x.ps.length = 0) : WS f m x ↔ hasC m x.c = true :=
  have e : x.ps = [] := List.eq_nil_of_length_eq_zero h
  ⟨fun hw => hw.whole e, fun hh => ⟨fun _ => hh, fun hne => absurd e hne⟩⟩
theorem ws_split {f : Int} {m : Nat} {x : Pl} (h : x.ps.length ≠ 0) : WS f m x ↔ SplitOk f m x :=
  have e : x.ps ≠ [] := fun e => h (by rw [e]; rfl)
  ⟨fun hw => hw.split e, fun hh => ⟨fun e' => absurd e' e, fun _ => hh⟩⟩

set_option maxRecDepth 100000 in
set_option maxHeartbeats 4000000 in
theorem rightPlaces_any (f : Int) (m : Nat) (v : Value) (l : List Pl) (w : World) (h : PlsAt w v l) (hL : LightL l) (hm : m < 4294967296) (hf : 2 ≤ f) (hf2 : f ≤ 64) :
    Calls Try.prog 42 #[planA f m v] w (RetIff (∀ x ∈ l, WS f m x) w) := by
  have HLL := Lib.hid hL
  have HM := Lib.hid hm
  have HF := Lib.hid (And.intro hf hf2)
  have hl : l.length ≤ 1000 := by have := hL.len; omega
  have HHC := Lib.hid (fun v c W => hasCore_any f m v c W hm)
  have HIW := Lib.hid (fun A n d x w => isWhole_any Any A n d x w)
  unfold planA at HHC
  unfold plA at HIW
  clear hL hm hf hf2
  obtain ⟨A, cA, rfl, hlc, hcm⟩ := h.form
  have HL := Lib.hid h
  obtain ⟨w1, P, hw1, hP, hPl, hb1, hbox⟩ := box_any w #[.int .i64 f, .int .u32 m, .slice A l.length cA] 25
  obtain ⟨n, hn⟩ : ∃ n, l.length = n := ⟨_, rfl⟩
  rw [hn] at HL hlc hl hw1 hbox ⊢
  have HN := Lib.hid hn
  have HB1 := Lib.hid hb1
  have HBOX := Lib.hid hbox
  obtain ⟨r0, r1, r2⟩ := three_heads hbox
  clear h hn hb1 hbox
  unfold planA
  go_enter Try.func42, Try.ntmps42
  go_wp2_with fail
  clear hw1 hP r0 r1 r2
  go_loopg [4, 8] n (fun gg _ s8 wr => ∃ k : Nat, k ≤ n ∧ gg = n - k ∧ s8 = .int .i64 k ∧ Hid (∀ (i : Nat) (x : Pl), i < k → l[i]? = some x → WS f m x) ∧ Below w1.heap.size w1 wr)
  case atStart => exact ⟨0, Nat.zero_le _, by omega, rfl, fun i x h => absurd h (Nat.not_lt_zero _), Below.refl _ _⟩
  case round =>
    obtain ⟨k, hk, hg, rfl, HW, hbw⟩ := hrel
    have HBW := Lib.hid hbw
    have HB := Lib.hid (HB1.out.trans (hbw.mono HB1.out.size))
    have HG := Lib.hid hg
    have hPl2 : P < wr.heap.size := Nat.lt_of_lt_of_le hPl hbw.size
    have HBX := Lib.hid ((hbw.block P hPl).trans HBOX.out)
    obtain ⟨r0, r1, r2⟩ := three_heads HBX.out
    have HLR := Lib.hid (HL.out.keep HB.out)
    clear hbw hg
    by_cases hlt : k < n
    · have hk0 : (0 : Int) ≤ (k : Int) := by omega
      have hltz : (k : Int) < (n : Int) := by omega
      obtain ⟨x, hx⟩ := exP_at (xs := l) (k := k) (by rw [HN.out]; exact hlt)
      obtain ⟨b, off, B, d, hA, hbl, _, ⟨c0, c1, c2, c3⟩, hps⟩ := HLR.out.at_ hx
      subst hA
      simp only at c0 c1 c2 c3
      have HX := Lib.hid hx
      have HPS := Lib.hid hps
      clear hx hps
      obtain ⟨w2, N, hw2, hN, hNl, hb2, hxbox⟩ := box_any wr #[.int .i64 x.u, .int .i64 x.s, .int .i64 x.c, .slice B x.ps.length d] 56
      have HB2 := Lib.hid hb2
      have HXB := Lib.hid hxbox
      obtain ⟨x0, x1, x2, x3⟩ := four_heads hxbox
      obtain ⟨p0, p1, p2⟩ := three_heads (keep_block HBX.out hb2)
      clear hb2 hxbox
      have hxo := HLL.out.ok x (List.mem_of_getElem? HX.out)
      have HBS := Lib.hid (HBW.out.trans (HB2.out.mono HBW.out.size))
      have HBX2 := Lib.hid (keep_block HBX.out HB2.out)
      have HIC := Lib.hid (fun w => HIW.out B x.ps.length d x w)
      have HCC := Lib.hid (fun w => HHC.out (.slice (some ⟨b, off, none⟩) n cA) x.c w)
      have HXA := Lib.hid (show (∀ x ∈ l, WS f m x) → WS f m x from fun h => h x (List.mem_of_getElem? HX.out))
      have HWN : Hid (WS f m x → ∀ (i : Nat) (x : Pl), i < k + 1 → l[i]? = some x → WS f m x) := fun hws i y hi hy => by
        by_cases e : i = k
        · subst e; rw [HX.out] at hy; cases hy; exact hws
        · exact HW i y (by omega) hy
      have HSP := Lib.hid (fun W h => calls_iff (rightSplit_any f m (.slice (some ⟨b, off, none⟩) n cA) (.slice B x.ps.length d) x W h hxo.1 hxo.2 HM.out HF.out.1 HF.out.2))
      unfold planA plA at HSP
      have HWW := Lib.hid (fun h => ws_whole (f := f) (m := m) (x := x) h)
      have HWS := Lib.hid (fun h => ws_split (f := f) (m := m) (x := x) h)
      clear hxo
      cases hz : decide (x.ps.length = 0) with
      | true =>
        rw [hz] at HIC
        have HWI := Lib.hid (HWW.out (of_decide_eq_true hz))
        clear hz
        cases hh : hasC m x.c with
        | false =>
          rw [hh] at HCC HWI
          have HNO := Lib.hid (show ¬ (∀ x ∈ l, WS f m x) from fun h => by have := HWI.out.1 (HXA.out h); cases this)
          clear hh
          go_wp2_with fail
          refine (HIC.out _).mono ?_
          rintro e w3 ⟨rfl, hb3⟩
          have HB3 := Lib.hid (HBS.out.trans (hb3.mono HBS.out.size))
          obtain ⟨y0, y1, y2, y3⟩ := four_heads (keep_block HXB.out hb3)
          obtain ⟨q0, q1, q2⟩ := three_heads (keep_block HBX2.out hb3)
          clear hb3 x0 x1 x2 x3 p0 p1 p2
          go_wp2_with fail
          refine (HCC.out _).mono ?_
          rintro e w4 ⟨rfl, hb4⟩
          have HB4 := Lib.hid (HB1.out.trans ((HB3.out.trans (hb4.mono HB3.out.size)).mono HB1.out.size))
          clear hb4
          go_wp2_with fail
          go_ret
          exact RetIff.no HNO.out HB4.out
        | true =>
          rw [hh] at HCC HWI
          have HYES : Hid (∀ (i : Nat) (x : Pl), i < k + 1 → l[i]? = some x → WS f m x) := HWN (HWI.out.2 rfl)
          clear hh
          go_wp2_with fail
          refine (HIC.out _).mono ?_
          rintro e w3 ⟨rfl, hb3⟩
          have HB3 := Lib.hid (HBS.out.trans (hb3.mono HBS.out.size))
          have HXB3 := Lib.hid (keep_block HXB.out hb3)
          obtain ⟨y0, y1, y2, y3⟩ := four_heads HXB3.out
          obtain ⟨q0, q1, q2⟩ := three_heads (keep_block HBX2.out hb3)
          clear hb3 x0 x1 x2 x3 p0 p1 p2
          go_wp2_with fail
          refine (HCC.out _).mono ?_
          rintro e w4 ⟨rfl, hb4⟩
          have HB4 := Lib.hid (HB3.out.trans (hb4.mono HB3.out.size))
          obtain ⟨z0, z1, z2, z3⟩ := four_heads (keep_block HXB3.out hb4)
          clear hb4 y0 y1 y2 y3
          go_wp2_with fail
          refine (HIC.out _).mono ?_
          rintro e w5 ⟨rfl, hb5⟩
          have HB5 := Lib.hid (HB4.out.trans (hb5.mono HB4.out.size))
          clear hb5
          go_wp2_with fail
          go_roundg (n - (k + 1))
          case measure => have := HG.out; omega
          case rel => exact ⟨k + 1, by omega, rfl, by go_num, HYES, HB5.out⟩
      | false =>
        rw [hz] at HIC
        have HWI := Lib.hid (HWS.out (of_decide_eq_false hz))
        clear hz
        go_wp2_with fail
        refine (HIC.out _).mono ?_
        rintro e w3 ⟨rfl, hb3⟩
        have HB3 := Lib.hid (HBS.out.trans (hb3.mono HBS.out.size))
        have HXB3 := Lib.hid (keep_block HXB.out hb3)
        have HBX3 := Lib.hid (keep_block HBX2.out hb3)
        have HPS3 := Lib.hid ((HPS.out.keep HB2.out).keep hb3)
        obtain ⟨y0, y1, y2, y3⟩ := four_heads HXB3.out
        clear hb3 x0 x1 x2 x3 p0 p1 p2
        go_wp2_with fail
        refine (HIC.out _).mono ?_
        rintro e w4 ⟨rfl, hb4⟩
        have HB4 := Lib.hid (HB3.out.trans (hb4.mono HB3.out.size))
        have HBO4 := Lib.hid (HB1.out.trans (HB4.out.mono HB1.out.size))
        obtain ⟨z0, z1, z2, z3⟩ := four_heads (keep_block HXB3.out hb4)
        obtain ⟨q0, q1, q2⟩ := three_heads (keep_block HBX3.out hb4)
        have HPS4 := Lib.hid ((HPS3.out.any).keep hb4)
        clear hb4 y0 y1 y2 y3
        by_cases hsp : SplitOk f m x
        · have HSY := Lib.hid ((HSP.out w4 HPS4.out).1 hsp)
          have HYES : Hid (∀ (i : Nat) (x : Pl), i < k + 1 → l[i]? = some x → WS f m x) := HWN (HWI.out.2 hsp)
          clear hsp
          go_wp2_with fail
          refine HSY.out.mono ?_
          rintro e w5 ⟨rfl, hb5⟩
          have HB5 := Lib.hid (HB4.out.trans (hb5.mono HB4.out.size))
          clear hb5
          go_wp2_with fail
          go_roundg (n - (k + 1))
          case measure => have := HG.out; omega
          case rel => exact ⟨k + 1, by omega, rfl, by go_num, HYES, HB5.out⟩
        · have HSN := Lib.hid ((HSP.out w4 HPS4.out).2 hsp)
          have HNO := Lib.hid (show ¬ (∀ x ∈ l, WS f m x) from fun h => hsp (HWI.out.1 (HXA.out h)))
          clear hsp
          go_wp2_with fail
          refine HSN.out.mono ?_
          rintro e w5 ⟨rfl, hb5⟩
          have HB5 := Lib.hid (HBO4.out.trans (hb5.mono HBO4.out.size))
          clear hb5
          go_wp2_with fail
          go_ret
          exact RetIff.no HNO.out HB5.out
    · have hltz : ¬ (k : Int) < (n : Int) := by omega
      have HYE := Lib.hid (show ∀ x ∈ l, WS f m x from fun x hx => by
        obtain ⟨i, hi, e⟩ := List.getElem_of_mem hx
        exact HW i x (by have := HN.out; omega) (by rw [List.getElem?_eq_getElem hi, e]))
      go_wp2
      go_ret
      exact RetIff.yes HYE.out HB.out
end Go.Proofs.Ytpjmdnhoiobedaa
