/-
  Wholes of program and document.
  Conditions: the slice reads as places.
-/
import Derived.Test.YtpjmdnhoiobedaaLists
set_option linter.unusedVariables false
namespace Go.Proofs.Ytpjmdnhoiobedaa
open Go.RowKit Go.Sort

theorem wholes_no {l : List Pl} {k : Nat} {x : Pl} {c : Int} (hx : l[k]? = some x) (h : wholeB c x = false) : wholesT (l.take (k + 1)) c = wholesT (l.take k) c := by
  rw [wholes_snoc hx, h]
  simp
theorem wholes_yes {l : List Pl} {k : Nat} {x : Pl} {c : Int} (hx : l[k]? = some x) (h : wholeB c x = true) : wholesT (l.take (k + 1)) c = wholesT (l.take k) c ++ [(x.u, x.s)] := by
  rw [wholes_snoc hx, h]
  rfl
theorem whole_dec {c : Int} {x : Pl} {z e : Bool} (hz : decide (x.ps.length = 0) = z) (he : (x.c == c) = e) : wholeB c x = (z && e) := by
  unfold wholeB
  rw [hz, ← he]
  congr 1
/-- A row of wants of a call's own. -/
abbrev RowW (W : World) (base : Nat) (v : Value) (ps : List Sp) : Prop := W.ownsRow base 58 2 v ps.length (spansCells ps)
theorem RowW.snoc {W : World} {base : Nat} {v : Value} {ps : List Sp} {p : Sp} (h : W.ownsRow base 58 2 v (ps.length + 1) (spansCells ps ++ [.int .i64 p.1, .int .i64 p.2])) : RowW W base v (ps ++ [p]) := by
  show W.ownsRow base 58 2 v (ps ++ [p]).length (spansCells (ps ++ [p]))
  rw [List.length_append, spansCells_snoc]
  exact h

set_option maxRecDepth 100000 in
set_option maxHeartbeats 4000000 in
theorem wholes_any (f : Int) (m : Nat) (v : Value) (l : List Pl) (c : Int) (w : World) (h : PlsAt w v l) (hl : l.length ≤ 1000) :
    Calls Try.prog 24 #[planA f m v, .int .i64 c] w (RetS (wholesT l c) w) := by
  obtain ⟨i0, hi, hz0, hz1, hz2⟩ := info_parts Try.infoSpan
  obtain ⟨A, cA, rfl, hlc, hcm⟩ := h.form
  have HL := Lib.hid h
  obtain ⟨w1, P, hw1, hP, hPl, hb1, hbox⟩ := box_any w #[.int .i64 f, .int .u32 m, .slice A l.length cA] 25
  obtain ⟨n, hn⟩ : ∃ n, l.length = n := ⟨_, rfl⟩
  rw [hn] at HL hlc hl hw1 hbox ⊢
  have HN := Lib.hid hn
  have HB1 := Lib.hid hb1
  have HBOX := Lib.hid hbox
  obtain ⟨r0, r1, r2⟩ := three_heads hbox
  clear h hn hb1 hbox
  unfold planA
  have HW := Lib.hid (fun v x w => wantOf_any v x w)
  have HI := Lib.hid (fun A n d x w => isWhole_any Any A n d x w)
  unfold plA at HW HI
  go_enter Try.func24, Try.ntmps24
  go_wp2_with fail
  clear hw1 hP r0 r1 r2
  go_loopg [5, 7, 11] n (fun gg s5 _ s11 wr => ∃ k : Nat, k ≤ n ∧ gg = n - k ∧ s11 = .int .i64 k ∧ Below w1.heap.size w1 wr ∧ RowW wr w1.heap.size s5 (wholesT (l.take k) c))
  case atStart => exact ⟨0, Nat.zero_le _, by omega, rfl, Below.refl _ _, World.ownsRow_nil _ _ _ _⟩
  case round =>
    obtain ⟨k, hk, hg, rfl, hbw, hown⟩ := hrel
    have HO := Lib.hid hown
    clear hown
    have HBW := Lib.hid hbw
    have HB := Lib.hid (HB1.out.trans (hbw.mono HB1.out.size))
    have HG := Lib.hid hg
    have hPl2 : P < wr.heap.size := Nat.lt_of_lt_of_le hPl hbw.size
    have HBX := Lib.hid ((hbw.block P hPl).trans HBOX.out)
    obtain ⟨r0, r1, r2⟩ := three_heads HBX.out
    have HLR := Lib.hid (HL.out.keep HB.out)
    clear hbw hg
    by_cases hlt : k < n
    · have hk0 : (0 : Int) ≤ (k : Int) := by omega
      have hltz : (k : Int) < (n : Int) := by omega
      obtain ⟨x, hx⟩ := exP_at (xs := l) (k := k) (by rw [HN.out]; exact hlt)
      obtain ⟨b, off, B, d, hA, hbl, _, ⟨c0, c1, c2, c3⟩, hps⟩ := HLR.out.at_ hx
      subst hA
      simp only at c0 c1 c2 c3
      have HX := Lib.hid hx
      have HPS := Lib.hid hps
      clear hx hps
      obtain ⟨w2, N, hw2, hN, hNl, hb2, hxbox⟩ := box_any wr #[.int .i64 x.u, .int .i64 x.s, .int .i64 x.c, .slice B x.ps.length d] 56
      have HB2 := Lib.hid hb2
      have HXB := Lib.hid hxbox
      obtain ⟨x0, x1, x2, x3⟩ := four_heads hxbox
      obtain ⟨p0, p1, p2⟩ := three_heads (keep_block HBX.out hb2)
      clear hb2 hxbox
      have HC := Lib.hid (fun w => HI.out B x.ps.length d x w)
      have HLE := Lib.hid (show (wholesT (l.take k) c).length ≤ 1000 from Nat.le_trans (wholes_le _ _) (by rw [List.length_take]; omega))
      generalize hR : wholesT (l.take k) c = R at *
      have HR := Lib.hid hR
      have HBS := Lib.hid (HBW.out.trans (HB2.out.mono HBW.out.size))
      have HO2 : Hid (RowW w2 w1.heap.size u5 R) := own_below5 HO.out HB2.out
      clear hR
      cases hz : decide (x.ps.length = 0) with
      | false =>
        rw [hz] at HC
        have HE := Lib.hid (wholes_no HX.out (show wholeB c x = false from (whole_dec hz rfl).trans rfl))
        rw [HR.out] at HE
        clear hz
        go_wp2_with fail
        refine (HC.out _).mono ?_
        rintro e w3 ⟨rfl, hb3⟩
        have HB3 := Lib.hid (HBS.out.trans (hb3.mono HBS.out.size))
        have HO3 : Hid (RowW w3 w1.heap.size u5 R) := own_below5 HO2.out hb3
        clear hb3
        go_wp2_with fail
        go_roundg (n - (k + 1))
        case measure => have := HG.out; omega
        case rel => exact ⟨k + 1, by omega, rfl, by go_num, HB3.out, by rw [HE.out]; exact HO3.out⟩
      | true =>
        rw [hz] at HC
        cases he : (x.c == c) with
        | false =>
          have HE := Lib.hid (wholes_no HX.out (show wholeB c x = false from (whole_dec hz he).trans rfl))
          rw [HR.out] at HE
          clear hz
          go_wp2_with fail
          refine (HC.out _).mono ?_
          rintro e w3 ⟨rfl, hb3⟩
          have HB3 := Lib.hid (HBS.out.trans (hb3.mono HBS.out.size))
          have HO3 : Hid (RowW w3 w1.heap.size u5 R) := own_below5 HO2.out hb3
          obtain ⟨y0, y1, y2, y3⟩ := four_heads (keep_block HXB.out hb3)
          clear hb3
          go_wp2_with fail
          go_roundg (n - (k + 1))
          case measure => have := HG.out; omega
          case rel => exact ⟨k + 1, by omega, rfl, by go_num, HB3.out, by rw [HE.out]; exact HO3.out⟩
        | true =>
          have HE := Lib.hid (wholes_yes HX.out (show wholeB c x = true from (whole_dec hz he).trans rfl))
          rw [HR.out] at HE
          clear hz
          go_wp2_with fail
          refine (HC.out _).mono ?_
          rintro e w3 ⟨rfl, hb3⟩
          have HB3 := Lib.hid (HBS.out.trans (hb3.mono HBS.out.size))
          have HO3 : Hid (RowW w3 w1.heap.size u5 R) := own_below5 HO2.out hb3
          obtain ⟨y0, y1, y2, y3⟩ := four_heads (keep_block HXB.out hb3)
          clear hb3
          go_wp2_with fail
          refine (HW.out _ x _).mono ?_
          rintro e w4 ⟨rfl, hb4⟩
          have HB4 := Lib.hid (HB3.out.trans (hb4.mono HB3.out.size))
          have HO4 : Hid (RowW w4 w1.heap.size u5 R) := own_below5 HO3.out hb4
          have hsz := HB4.out.size
          have hle := HLE.out
          clear hb4 y0 y1 y2 y3 x0 x1 x2 x3 p0 p1 p2
          go_wp2_with (at_builtin; refine wpList_append_own _ rfl _ _ 36 rfl w1.heap.size 58 i0 (.agg #[.int .i64 0, .int .i64 0]) 2 16 Try.underlying36 hi hz0 hz1 hz2 rfl (by decide) _ _ _ rfl (HO4.out.alloc _) ⟨w4.heap.size, 0, none⟩ 1 1 [.int .i64 x.u, .int .i64 x.s] rfl rfl ?c1 ?c2 ?c3 ?c4 ?c5 ?_)
          case c1 => exact news_two _ _ rfl _ _ _
          case c2 => intro u hu; simp at hu; rcases hu with rfl | rfl <;> rfl
          case c3 => unfold maxLen; omega
          case c4 => omega
          case c5 => simp; omega
          intro v5 w5 hown5 hgrow _
          have HB5 := Lib.hid ((HB4.out.alloc hsz _).trans (below_grown5 hgrow (by simp; omega) (own_base5 HO4.out)))
          have HO5 : Hid (RowW w5 w1.heap.size v5 (R ++ [(x.u, x.s)])) := RowW.snoc hown5
          clear hown5 hgrow hsz
          go_wp2_with fail
          go_roundg (n - (k + 1))
          case measure => have := HG.out; omega
          case rel => exact ⟨k + 1, by omega, rfl, by go_num, HB5.out, by rw [HE.out]; exact HO5.out⟩
    · have hltz : ¬ (k : Int) < (n : Int) := by omega
      have HE := Lib.hid (show l.take k = l from List.take_of_length_le (by rw [HN.out]; omega))
      have HF := Lib.hid (show SpansAt wr u5 (wholesT l c) by
        have h := HO.out
        rw [HE.out] at h
        exact spans_of_own (base := w1.heap.size) (e := 58) h (Nat.le_trans (wholes_le _ _) (by rw [HN.out]; omega)))
      go_wp2
      go_ret
      exact ⟨_, rfl, HF.out, HB.out⟩

set_option maxRecDepth 100000 in
set_option maxHeartbeats 4000000 in
theorem refWholes_any (f : Int) (m : Nat) (v : Value) (l : List Pl) (c : Int) (w : World) (h : PlsAt w v l) (hl : l.length ≤ 1000) :
    Calls Try.prog 30 #[planA f m v, .int .i64 c] w (RetS (wholesT l c) w) := by
  obtain ⟨i0, hi, hz0, hz1, hz2⟩ := info_parts Try.infoSpan
  obtain ⟨A, cA, rfl, hlc, hcm⟩ := h.form
  have HL := Lib.hid h
  obtain ⟨w1, P, hw1, hP, hPl, hb1, hbox⟩ := box_any w #[.int .i64 f, .int .u32 m, .slice A l.length cA] 25
  obtain ⟨n, hn⟩ : ∃ n, l.length = n := ⟨_, rfl⟩
  rw [hn] at HL hlc hl hw1 hbox ⊢
  have HN := Lib.hid hn
  have HB1 := Lib.hid hb1
  have HBOX := Lib.hid hbox
  obtain ⟨r0, r1, r2⟩ := three_heads hbox
  clear h hn hb1 hbox
  unfold planA
  go_enter Try.func30, Try.ntmps30
  go_wp2_with fail
  clear hw1 hP r0 r1 r2
  have HB0 := Lib.hid (show Below w1.heap.size w1 (w1.alloc (Obj.cells #[] 58)) from (Below.refl _ _).alloc (Nat.le_refl _) _)
  have HO0 : Hid ((w1.alloc (Obj.cells #[] 58)).ownsRow w1.heap.size 58 2 (.slice (some ⟨w1.heap.size, 0, none⟩) 0 0) 0 []) :=
    ⟨rfl, .inr ⟨w1.heap.size, 0, #[], rfl, Nat.le_refl _, heap_alloc_new w1 _, Nat.le_refl _, Nat.zero_le _, rfl, rfl⟩⟩
  go_loopg [5, 6, 7] n (fun gg s5 s6 _ wr => ∃ k : Nat, k ≤ n ∧ gg = n - k ∧ s6 = .int .i64 k ∧ Below w1.heap.size w1 wr ∧ RowW wr w1.heap.size s5 (wholesT (l.take k) c))
  case atStart => exact ⟨0, Nat.zero_le _, by omega, rfl, HB0.out, HO0.out⟩
  case round =>
    obtain ⟨k, hk, hg, rfl, hbw, hown⟩ := hrel
    have HO := Lib.hid hown
    clear hown
    have HBW := Lib.hid hbw
    have HB := Lib.hid (HB1.out.trans (hbw.mono HB1.out.size))
    have HG := Lib.hid hg
    have hPl2 : P < wr.heap.size := Nat.lt_of_lt_of_le hPl hbw.size
    have HBX := Lib.hid ((hbw.block P hPl).trans HBOX.out)
    obtain ⟨r0, r1, r2⟩ := three_heads HBX.out
    have HLR := Lib.hid (HL.out.keep HB.out)
    clear hbw hg
    by_cases hlt : k < n
    · have hk0 : (0 : Int) ≤ (k : Int) := by omega
      have hltz : (k : Int) < (n : Int) := by omega
      obtain ⟨x, hx⟩ := exP_at (xs := l) (k := k) (by rw [HN.out]; exact hlt)
      obtain ⟨b, off, B, d, hA, hbl, _, ⟨c0, c1, c2, c3⟩, hps⟩ := HLR.out.at_ hx
      subst hA
      simp only at c0 c1 c2 c3
      have HX := Lib.hid hx
      have HPS := Lib.hid hps
      clear hx hps
      obtain ⟨w2, N, hw2, hN, hNl, hb2, hxbox⟩ := box_any wr #[.int .i64 x.u, .int .i64 x.s, .int .i64 x.c, .slice B x.ps.length d] 56
      have HB2 := Lib.hid hb2
      have HXB := Lib.hid hxbox
      obtain ⟨x0, x1, x2, x3⟩ := four_heads hxbox
      obtain ⟨p0, p1, p2⟩ := three_heads (keep_block HBX.out hb2)
      clear hb2 hxbox
      have HLE := Lib.hid (show (wholesT (l.take k) c).length ≤ 1000 from Nat.le_trans (wholes_le _ _) (by rw [List.length_take]; omega))
      generalize hR : wholesT (l.take k) c = R at *
      have HR := Lib.hid hR
      have HBS := Lib.hid (HBW.out.trans (HB2.out.mono HBW.out.size))
      have HO2 : Hid (RowW w2 w1.heap.size u5 R) := own_below5 HO.out HB2.out
      clear hR
      have hdec := fun z e => @whole_dec c x z e
      generalize hzz : x.ps.length = z at *
      cases hz : decide (z = 0) with
      | false =>
        have HE := Lib.hid (wholes_no HX.out (show wholeB c x = false from (whole_dec (show decide (x.ps.length = 0) = false by rw [hzz]; exact hz) rfl).trans rfl))
        rw [HR.out] at HE
        have hz1' : ((z : Int) == 0) = false := by have := of_decide_eq_false hz; simpa using this
        clear hz hdec hzz
        go_wp2_with fail
        go_roundg (n - (k + 1))
        case measure => have := HG.out; omega
        case rel => exact ⟨k + 1, by omega, rfl, by go_num, HBS.out, by rw [HE.out]; exact HO2.out⟩
      | true =>
        have hz1' : ((z : Int) == 0) = true := by have := of_decide_eq_true hz; subst this; rfl
        cases he : (x.c == c) with
        | false =>
          have HE := Lib.hid (wholes_no HX.out (show wholeB c x = false from (whole_dec (show decide (x.ps.length = 0) = true by rw [hzz]; exact hz) he).trans rfl))
          rw [HR.out] at HE
          clear hz hdec hzz
          go_wp2_with fail
          go_roundg (n - (k + 1))
          case measure => have := HG.out; omega
          case rel => exact ⟨k + 1, by omega, rfl, by go_num, HBS.out, by rw [HE.out]; exact HO2.out⟩
        | true =>
          have HE := Lib.hid (wholes_yes HX.out (show wholeB c x = true from (whole_dec (show decide (x.ps.length = 0) = true by rw [hzz]; exact hz) he).trans rfl))
          rw [HR.out] at HE
          have hsz := HBS.out.size
          have hle := HLE.out
          clear hz hdec hzz
          go_wp2_with (at_builtin; refine wpList_append_own _ rfl _ _ 36 rfl w1.heap.size 58 i0 (.agg #[.int .i64 0, .int .i64 0]) 2 16 Try.underlying36 hi hz0 hz1 hz2 rfl (by decide) _ _ _ rfl (HO2.out.alloc _) ⟨w2.heap.size, 0, none⟩ 1 1 [.int .i64 x.u, .int .i64 x.s] rfl rfl ?c1 ?c2 ?c3 ?c4 ?c5 ?_)
          case c1 => exact news_two _ _ rfl _ _ _
          case c2 => intro u hu; simp at hu; rcases hu with rfl | rfl <;> rfl
          case c3 => unfold maxLen; omega
          case c4 => omega
          case c5 => simp; omega
          intro v5 w5 hown5 hgrow _
          have HB5 := Lib.hid ((HBS.out.alloc hsz _).trans (below_grown5 hgrow (by simp; omega) (own_base5 HO2.out)))
          have HO5 : Hid (RowW w5 w1.heap.size v5 (R ++ [(x.u, x.s)])) := RowW.snoc hown5
          clear hown5 hgrow hsz
          go_wp2_with fail
          go_roundg (n - (k + 1))
          case measure => have := HG.out; omega
          case rel => exact ⟨k + 1, by omega, rfl, by go_num, HB5.out, by rw [HE.out]; exact HO5.out⟩
    · have hltz : ¬ (k : Int) < (n : Int) := by omega
      have HE := Lib.hid (show l.take k = l from List.take_of_length_le (by rw [HN.out]; omega))
      have HF := Lib.hid (show SpansAt wr u5 (wholesT l c) by
        have h := HO.out
        rw [HE.out] at h
        exact spans_of_own (base := w1.heap.size) (e := 58) h (Nat.le_trans (wholes_le _ _) (by rw [HN.out]; omega)))
      go_wp2
      go_ret
      exact ⟨_, rfl, HF.out, HB.out⟩
end Go.Proofs.Ytpjmdnhoiobedaa
