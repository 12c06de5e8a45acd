/-
  windows of the program: each core's windows in an array.
  Conditions: the slice reads as places; the numbers are of their kinds.
-/
import Derived.Test.YtkgkanmccaodfaaM03
import Derived.Deep.WholeRow
import Derived.StillTailTactics

/-
  Wholes of program and document.
  Conditions: the slice reads as places.
-/
set_option linter.unusedVariables false
namespace Go.Proofs.Ytkgkanmccaodfaa
open Go.RowKit Go.Sort

theorem wholes_no {l : List Pl} {k : Nat} {x : Pl} {c : Int} (hx : l[k]? = some x) (h : wholeB c x = false) : wholesT (l.take (k + 1)) c = wholesT (l.take k) c := by
  rw [wholes_snoc hx, h]
  simp
theorem wholes_yes {l : List Pl} {k : Nat} {x : Pl} {c : Int} (hx : l[k]? = some x) (h : wholeB c x = true) : wholesT (l.take (k + 1)) c = wholesT (l.take k) c ++ [(x.u, x.s)] := by
  rw [wholes_snoc hx, h]
  rfl
theorem whole_dec {c : Int} {x : Pl} {z e : Bool} (hz : decide (x.ps.length = 0) = z) (he : (x.c == c) = e) : wholeB c x = (z && e) := by
  unfold wholeB
  rw [hz, ← he]
  congr 1
/-- A row of wants of a call's own. -/
abbrev RowW (W : World) (base : Nat) (v : Value) (ps : List Sp) : Prop := W.ownsRow base 35 2 v ps.length (spansCells ps)
theorem RowW.snoc {W : World} {base : Nat} {v : Value} {ps : List Sp} {p : Sp} (h : W.ownsRow base 35 2 v (ps.length + 1) (spansCells ps ++ [.int .i64 p.1, .int .i64 p.2])) : RowW W base v (ps ++ [p]) := by
  show W.ownsRow base 35 2 v (ps ++ [p]).length (spansCells (ps ++ [p]))
  rw [List.length_append, spansCells_snoc]
  exact h

set_option maxRecDepth 100000 in
set_option maxHeartbeats 4000000 in
theorem refWholes_any (f : Int) (m : Nat) (v : Value) (l : List Pl) (c : Int) (w : World) (h : PlsAt w v l) (hl : l.length ≤ 1000) :
    Calls Try.prog 44 #[planA f m v, .int .i64 c] w (RetS (wholesT l c) w) := by
  obtain ⟨i0, hi, hz0, hz1, hz2⟩ := info_parts Try.infoSpan
  obtain ⟨A, cA, rfl, hlc, hcm⟩ := h.form
  have HL := Lib.hid h
  obtain ⟨w1, P, hw1, hP, hPl, hb1, hbox⟩ := box_any w #[.int .i64 f, .int .u32 m, .slice A l.length cA] 25
  obtain ⟨n, hn⟩ : ∃ n, l.length = n := ⟨_, rfl⟩
  rw [hn] at HL hlc hl hw1 hbox ⊢
  have HN := Lib.hid hn
  have HB1 := Lib.hid hb1
  have HBOX := Lib.hid hbox
  obtain ⟨r0, r1, r2⟩ := three_heads hbox
  clear h hn hb1 hbox
  unfold planA
  go_enter Try.func44, Try.ntmps44
  go_wp2_with fail
  clear hw1 hP r0 r1 r2
  have HB0 := Lib.hid (show Below w1.heap.size w1 (w1.alloc (Obj.cells #[] 35)) from (Below.refl _ _).alloc (Nat.le_refl _) _)
  have HO0 : Hid ((w1.alloc (Obj.cells #[] 35)).ownsRow w1.heap.size 35 2 (.slice (some ⟨w1.heap.size, 0, none⟩) 0 0) 0 []) :=
    ⟨rfl, .inr ⟨w1.heap.size, 0, #[], rfl, Nat.le_refl _, heap_alloc_new w1 _, Nat.le_refl _, Nat.zero_le _, rfl, rfl⟩⟩
  go_loopg [5, 6, 7] n (fun gg s5 s6 _ wr => ∃ k : Nat, k ≤ n ∧ gg = n - k ∧ s6 = .int .i64 k ∧ Below w1.heap.size w1 wr ∧ RowW wr w1.heap.size s5 (wholesT (l.take k) c))
  case atStart => exact ⟨0, Nat.zero_le _, by omega, rfl, HB0.out, HO0.out⟩
  case round =>
    obtain ⟨k, hk, hg, rfl, hbw, hown⟩ := hrel
    have HO := Lib.hid hown
    clear hown
    have HBW := Lib.hid hbw
    have HB := Lib.hid (HB1.out.trans (hbw.mono HB1.out.size))
    have HG := Lib.hid hg
    have hPl2 : P < wr.heap.size := Nat.lt_of_lt_of_le hPl hbw.size
    have HBX := Lib.hid ((hbw.block P hPl).trans HBOX.out)
    obtain ⟨r0, r1, r2⟩ := three_heads HBX.out
    have HLR := Lib.hid (HL.out.keep HB.out)
    clear hbw hg
    by_cases hlt : k < n
    · have hk0 : (0 : Int) ≤ (k : Int) := by omega
      have hltz : (k : Int) < (n : Int) := by omega
      obtain ⟨x, hx⟩ := exP_at (xs := l) (k := k) (by rw [HN.out]; exact hlt)
      obtain ⟨b, off, B, d, hA, hbl, _, ⟨c0, c1, c2, c3⟩, hps⟩ := HLR.out.at_ hx
      subst hA
      simp only at c0 c1 c2 c3
      have HX := Lib.hid hx
      have HPS := Lib.hid hps
      clear hx hps
      obtain ⟨w2, N, hw2, hN, hNl, hb2, hxbox⟩ := box_any wr #[.int .i64 x.u, .int .i64 x.s, .int .i64 x.c, .slice B x.ps.length d] 38
      have HB2 := Lib.hid hb2
      have HXB := Lib.hid hxbox
      obtain ⟨x0, x1, x2, x3⟩ := four_heads hxbox
      obtain ⟨p0, p1, p2⟩ := three_heads (keep_block HBX.out hb2)
      clear hb2 hxbox
      have HLE := Lib.hid (show (wholesT (l.take k) c).length ≤ 1000 from Nat.le_trans (wholes_le _ _) (by rw [List.length_take]; omega))
      generalize hR : wholesT (l.take k) c = R at *
      have HR := Lib.hid hR
      have HBS := Lib.hid (HBW.out.trans (HB2.out.mono HBW.out.size))
      have HO2 : Hid (RowW w2 w1.heap.size u5 R) := own_below5 HO.out HB2.out
      clear hR
      have hdec := fun z e => @whole_dec c x z e
      generalize hzz : x.ps.length = z at *
      cases hz : decide (z = 0) with
      | false =>
        have HE := Lib.hid (wholes_no HX.out (show wholeB c x = false from (whole_dec (show decide (x.ps.length = 0) = false by rw [hzz]; exact hz) rfl).trans rfl))
        rw [HR.out] at HE
        have hz1' : ((z : Int) == 0) = false := by have := of_decide_eq_false hz; simpa using this
        clear hz hdec hzz
        go_wp2_with fail
        go_roundg (n - (k + 1))
        case measure => have := HG.out; omega
        case rel => exact ⟨k + 1, by omega, rfl, by go_num, HBS.out, by rw [HE.out]; exact HO2.out⟩
      | true =>
        have hz1' : ((z : Int) == 0) = true := by have := of_decide_eq_true hz; subst this; rfl
        cases he : (x.c == c) with
        | false =>
          have HE := Lib.hid (wholes_no HX.out (show wholeB c x = false from (whole_dec (show decide (x.ps.length = 0) = true by rw [hzz]; exact hz) he).trans rfl))
          rw [HR.out] at HE
          clear hz hdec hzz
          go_wp2_with fail
          go_roundg (n - (k + 1))
          case measure => have := HG.out; omega
          case rel => exact ⟨k + 1, by omega, rfl, by go_num, HBS.out, by rw [HE.out]; exact HO2.out⟩
        | true =>
          have HE := Lib.hid (wholes_yes HX.out (show wholeB c x = true from (whole_dec (show decide (x.ps.length = 0) = true by rw [hzz]; exact hz) he).trans rfl))
          rw [HR.out] at HE
          have hsz := HBS.out.size
          have hle := HLE.out
          clear hz hdec hzz
          go_wp2_with (at_builtin; refine wpList_append_own _ rfl _ _ 68 rfl w1.heap.size 35 i0 (.agg #[.int .i64 0, .int .i64 0]) 2 16 Try.underlying68 hi hz0 hz1 hz2 rfl (by decide) _ _ _ rfl (HO2.out.alloc _) ⟨w2.heap.size, 0, none⟩ 1 1 [.int .i64 x.u, .int .i64 x.s] rfl rfl ?c1 ?c2 ?c3 ?c4 ?c5 ?_)
          case c1 => exact news_two _ _ rfl _ _ _
          case c2 => intro u hu; simp at hu; rcases hu with rfl | rfl <;> rfl
          case c3 => unfold maxLen; omega
          case c4 => omega
          case c5 => simp; omega
          intro v5 w5 hown5 hgrow _
          have HB5 := Lib.hid ((HBS.out.alloc hsz _).trans (below_grown5 hgrow (by simp; omega) (own_base5 HO2.out)))
          have HO5 : Hid (RowW w5 w1.heap.size v5 (R ++ [(x.u, x.s)])) := RowW.snoc hown5
          clear hown5 hgrow hsz
          go_wp2_with fail
          go_roundg (n - (k + 1))
          case measure => have := HG.out; omega
          case rel => exact ⟨k + 1, by omega, rfl, by go_num, HB5.out, by rw [HE.out]; exact HO5.out⟩
    · have hltz : ¬ (k : Int) < (n : Int) := by omega
      have HE := Lib.hid (show l.take k = l from List.take_of_length_le (by rw [HN.out]; omega))
      have HF := Lib.hid (show SpansAt wr u5 (wholesT l c) by
        have h := HO.out
        rw [HE.out] at h
        exact spans_of_own (base := w1.heap.size) (e := 35) h (Nat.le_trans (wholes_le _ _) (by rw [HN.out]; omega)))
      go_wp2
      go_ret
      exact ⟨_, rfl, HF.out, HB.out⟩
end Go.Proofs.Ytkgkanmccaodfaa

/-
  At, Windows, Load, Room and Free of the document.
  Conditions: the slices read as pieces, as places; the numbers are of their kinds.
-/
set_option linter.unusedVariables false
namespace Go.Proofs.Ytkgkanmccaodfaa
open Go.RowKit Go.Sort

/-- What At tells. -/
def hitB (c : Int) (t : Nat) (y : Pc) : Bool := (decide (c < 0) || decide (y.c = c)) && y.t.testBit t
def nAt (q : List Pc) (c : Int) (t : Nat) : Nat := q.countP (hitB c t)
theorem nAt_on {q : List Pc} {c : Int} {t : Nat} (h : 0 ≤ c) : nAt q c t = nOn q c t := by
  unfold nAt nOn
  congr 1
  funext y
  unfold hitB onB
  rw [decide_eq_false (by omega), Bool.false_or]
theorem nAt_any {q : List Pc} {c : Int} {t : Nat} (h : c < 0) : nAt q c t = nAny q t := by
  unfold nAt nAny
  congr 1
  funext y
  unfold hitB
  rw [decide_eq_true h, Bool.true_or, Bool.true_and]
theorem nAt_snoc {q : List Pc} {k : Nat} {y : Pc} {c : Int} {t : Nat} (hy : q[k]? = some y) : nAt (q.take (k + 1)) c t = nAt (q.take k) c t + (hitB c t y).toNat := by
  rw [List.take_add_one, hy]
  unfold nAt
  rw [Option.toList_some, List.countP_append, List.countP_singleton]
  cases hitB c t y <;> rfl
theorem nAt_le (q : List Pc) (c : Int) (t : Nat) : nAt q c t ≤ q.length := List.countP_le_length

set_option maxRecDepth 100000 in
set_option maxHeartbeats 2000000 in
theorem at_any (v : Value) (x : Pl) (c : Int) (t : Nat) (w : World) (h : PcsAt w v x.ps) (hl : x.ps.length ≤ 1000) (ho : ∀ y ∈ x.ps, PcOk y) (ht : t < 64) :
    Calls Try.prog 42 #[plA v x, .int .i64 c, .int .i64 t] w (RetB (.int .i64 (nAt x.ps c t : Nat)) w) := by
  obtain ⟨A, d, rfl⟩ := h.form
  have HL := Lib.hid h
  have HO := Lib.hid ho
  obtain ⟨u, s, c0, ps⟩ := x
  simp only at *
  obtain ⟨w1, P, hw1, hP, hPl, hb1, hbox⟩ := box_any w #[.int .i64 u, .int .i64 s, .int .i64 c0, .slice A ps.length d] 38
  obtain ⟨n, hn⟩ : ∃ n, ps.length = n := ⟨_, rfl⟩
  rw [hn] at HL hl hw1 hbox ⊢
  have HN := Lib.hid hn
  have HB1 := Lib.hid hb1
  have HBOX := Lib.hid hbox
  obtain ⟨r0, r1, r2, r3⟩ := four_heads hbox
  clear h hn hb1 hbox ho
  unfold plA
  go_enter Try.func42, Try.ntmps42
  go_wp2_with fail
  clear hw1 hP r0 r1 r2 r3
  go_loopg [7, 8] n (fun gg s7 s8 wr => ∃ k : Nat, k ≤ n ∧ gg = n - k ∧ s8 = .int .i64 k ∧ s7 = .int .i64 (nAt (ps.take k) c t : Nat) ∧ w1 = wr)
  case atStart => exact ⟨0, Nat.zero_le _, by omega, rfl, rfl, rfl⟩
  case round =>
    obtain ⟨k, hk, hg, rfl, rfl, rfl⟩ := hrel
    have HG := Lib.hid hg
    obtain ⟨r0, r1, r2, r3⟩ := four_heads HBOX.out
    clear hg
    by_cases hlt : k < n
    · have hltz : (k : Int) < (n : Int) := by omega
      have hk0 : (0 : Int) ≤ (k : Int) := by omega
      obtain ⟨y, hy⟩ := exP_at (xs := ps) (k := k) (by rw [HN.out]; exact hlt)
      obtain ⟨b, off, hA, hbl, _, y0, y1⟩ := (HL.out.keep HB1.out).at_ hy
      subst hA
      have HY := Lib.hid (nAt_snoc (c := c) (t := t) hy)
      have hyok := (HO.out y (List.mem_of_getElem? hy)).2
      have HH := Lib.hid (fun W => refHas_any y.t (t : Int) W hyok)
      rw [hasB_nat ht] at HH
      have hq : nAt (ps.take k) c t ≤ k := Nat.le_trans (nAt_le _ _ _) (by rw [List.length_take]; omega)
      generalize nAt (ps.take k) c t = q at *
      obtain ⟨yc, yt⟩ := y
      simp only at y0 y1 HH
      unfold hitB at HY
      simp only at HY
      clear hy hyok
      by_cases hc : c < 0
      · rw [decide_eq_true hc, Bool.true_or, Bool.true_and] at HY
        cases hb : yt.testBit t with
        | true =>
          rw [hb] at HH HY
          clear hb
          go_wp2_with (go_at_call 30; refine (HH.out _).mono ?_; rintro e w' ⟨rfl, rfl⟩)
          go_roundg (n - (k + 1))
          case measure => have := HG.out; omega
          case rel => exact ⟨k + 1, by omega, rfl, by go_num, by rw [HY.out]; go_num, rfl⟩
        | false =>
          rw [hb] at HH HY
          clear hb
          go_wp2_with (go_at_call 30; refine (HH.out _).mono ?_; rintro e w' ⟨rfl, rfl⟩)
          go_roundg (n - (k + 1))
          case measure => have := HG.out; omega
          case rel => exact ⟨k + 1, by omega, rfl, by go_num, by rw [HY.out]; rfl, rfl⟩
      · rw [decide_eq_false hc, Bool.false_or] at HY
        have hc' : decide (c < 0) = false := decide_eq_false hc
        cases he : (yc == c) with
        | false =>
          rw [show decide (yc = c) = false from he, Bool.false_and] at HY
          go_wp2_with fail
          go_roundg (n - (k + 1))
          case measure => have := HG.out; omega
          case rel => exact ⟨k + 1, by omega, rfl, by go_num, by rw [HY.out]; rfl, rfl⟩
        | true =>
          rw [show decide (yc = c) = true from he, Bool.true_and] at HY
          cases hb : yt.testBit t with
          | true =>
            rw [hb] at HH HY
            clear hb
            go_wp2_with (go_at_call 30; refine (HH.out _).mono ?_; rintro e w' ⟨rfl, rfl⟩)
            go_roundg (n - (k + 1))
            case measure => have := HG.out; omega
            case rel => exact ⟨k + 1, by omega, rfl, by go_num, by rw [HY.out]; go_num, rfl⟩
          | false =>
            rw [hb] at HH HY
            clear hb
            go_wp2_with (go_at_call 30; refine (HH.out _).mono ?_; rintro e w' ⟨rfl, rfl⟩)
            go_roundg (n - (k + 1))
            case measure => have := HG.out; omega
            case rel => exact ⟨k + 1, by omega, rfl, by go_num, by rw [HY.out]; rfl, rfl⟩
    · have hltz : ¬ (k : Int) < (n : Int) := by omega
      have HE := Lib.hid (show nAt (ps.take k) c t = nAt ps c t by rw [List.take_of_length_le (by rw [HN.out]; omega)])
      generalize nAt (ps.take k) c t = q at *
      go_wp2
      go_ret
      exact ⟨ret_natU HE.out, HB1.out⟩

/-! ### Windows -/
theorem pcs_take {l : List Pl} {k : Nat} {x : Pl} (hx : l[k]? = some x) : pcsOf (l.take (k + 1)) = pcsOf (l.take k) ++ x.ps := by
  rw [List.take_add_one, hx, Option.toList_some, pcsOf_snoc]
/-- A tick's set, some places looked at. -/
def innerM (M T : Nat) (q : List Pc) (c : Int) : Nat := if 0 < nOn q c T then withN M T else M
theorem inner_lt {M T : Nat} {q : List Pc} {c : Int} (hM : M < 18446744073709551616) (hT : T < 64) : innerM M T q c < 18446744073709551616 := by
  unfold innerM
  split
  · exact withN_lt hM hT
  · exact hM
theorem inner_hit {M T : Nat} {q r : List Pc} {c : Int} (h : 0 < nOn r c T) : withN (innerM M T q c) T = innerM M T (q ++ r) c := by
  unfold innerM
  rw [nOn_append, if_pos (show 0 < nOn q c T + nOn r c T by omega)]
  split
  · exact withN_of (by rw [withN_bit, decide_eq_true rfl, Bool.or_true])
  · rfl
theorem inner_miss {M T : Nat} {q r : List Pc} {c : Int} (h : ¬ 0 < nOn r c T) : innerM M T q c = innerM M T (q ++ r) c := by
  unfold innerM
  rw [nOn_append, show nOn q c T + nOn r c T = nOn q c T by omega]
def winT (q : List Pc) (c : Int) (T : Nat) : Nat := setT (fun t => decide (0 < nOn q c t)) T
theorem winT_lt (q : List Pc) (c : Int) {T : Nat} (h : T ≤ 64) : winT q c T < 18446744073709551616 := by
  rw [← two64]
  apply Nat.lt_pow_two_of_testBit
  intro i hi
  unfold winT
  rw [setT_bit, decide_eq_false (show ¬ i < T by omega), Bool.false_and]
theorem winT_succ (q : List Pc) (c : Int) (T : Nat) : innerM (winT q c T) T q c = winT q c (T + 1) := by
  unfold innerM winT
  rw [setT]
  by_cases h : 0 < nOn q c T
  · rw [if_pos h, decide_eq_true h, if_pos rfl]
  · rw [if_neg h, decide_eq_false h, if_neg (by simp)]

set_option maxRecDepth 100000 in
set_option maxHeartbeats 4000000 in
theorem refWindows_any (f : Int) (m : Nat) (v : Value) (l : List Pl) (c : Int) (w : World) (h : PlsAt w v l) (hl : l.length ≤ 1000) (ho : ∀ x ∈ l, PlOk x ∧ x.ps.length ≤ 1000) (hc : 0 ≤ c) :
    Calls Try.prog 34 #[planA f m v, .int .i64 c] w (RetB (.int .u64 (winN (pcsOf l) c)) w) := by
  have HO := Lib.hid ho
  have HC0 := Lib.hid hc
  clear ho hc
  obtain ⟨A, cA, rfl, hlc, hcm⟩ := h.form
  have HL := Lib.hid h
  obtain ⟨w1, P, hw1, hP, hPl, hb1, hbox⟩ := box_any w #[.int .i64 f, .int .u32 m, .slice A l.length cA] 25
  obtain ⟨n, hn⟩ : ∃ n, l.length = n := ⟨_, rfl⟩
  rw [hn] at HL hlc hl hw1 hbox ⊢
  have HN := Lib.hid hn
  have HB1 := Lib.hid hb1
  have HBOX := Lib.hid hbox
  obtain ⟨r0, r1, r2⟩ := three_heads hbox
  clear h hn hb1 hbox
  unfold planA
  go_enter Try.func34, Try.ntmps34
  go_wp2_with fail
  clear hw1 hP r0 r1 r2
  go_loopg [5, 6, 7] 64 (fun gg s5 s6 _ wr => ∃ T : Nat, T ≤ 64 ∧ gg = 64 - T ∧ s6 = .int .i64 T ∧ s5 = .int .u64 (winT (pcsOf l) c T : Nat) ∧ Below w1.heap.size w1 wr)
  case atStart => exact ⟨0, Nat.zero_le _, by omega, rfl, rfl, Below.refl _ _⟩
  case round =>
    obtain ⟨T, hT, hgT, rfl, rfl, hbT⟩ := hrel
    have HGT := Lib.hid hgT
    have HBT := Lib.hid hbT
    obtain ⟨wo, rfl⟩ : ∃ wo : World, wo = wr := ⟨_, rfl⟩
    have HM := Lib.hid (winT_lt (pcsOf l) c hT)
    have HE := Lib.hid (winT_succ (pcsOf l) c T)
    clear hgT hbT
    by_cases hlT : T < 64
    · have hlTz : (T : Int) < 64 := by omega
      generalize winT (pcsOf l) c T = M at *
      go_wp2_with fail
      go_loopg [5, 7] n (fun gg s5 s7 wr => ∃ k : Nat, k ≤ n ∧ gg = n - k ∧ s7 = .int .i64 k ∧ s5 = .int .u64 (innerM M T (pcsOf (l.take k)) c : Nat) ∧ Below w1.heap.size w1 wr)
      case atStart => exact ⟨0, Nat.zero_le _, by omega, rfl, rfl, HBT.out⟩
      case round =>
        obtain ⟨k, hk, hg, rfl, rfl, hbw⟩ := hrel
        have HBW := Lib.hid hbw
        have HB := Lib.hid (HB1.out.trans (hbw.mono HB1.out.size))
        have HG := Lib.hid hg
        have hPl2 : P < wr.heap.size := Nat.lt_of_lt_of_le hPl hbw.size
        have HBX := Lib.hid ((hbw.block P hPl).trans HBOX.out)
        obtain ⟨r0, r1, r2⟩ := three_heads HBX.out
        have HLR := Lib.hid (HL.out.keep HB.out)
        clear hbw hg
        by_cases hlt : k < n
        · have hk0 : (0 : Int) ≤ (k : Int) := by omega
          have hltz : (k : Int) < (n : Int) := by omega
          obtain ⟨x, hx⟩ := exP_at (xs := l) (k := k) (by rw [HN.out]; exact hlt)
          obtain ⟨b, off, B, d, hA, hbl, _, ⟨c0, c1, c2, c3⟩, hps⟩ := HLR.out.at_ hx
          subst hA
          simp only at c0 c1 c2 c3
          have HX := Lib.hid hx
          have HPS := Lib.hid hps
          clear hx hps
          have hxo := HO.out x (List.mem_of_getElem? HX.out)
          have HAT := Lib.hid (at_any (.slice B x.ps.length d) x c T wr HPS.out.any hxo.2 hxo.1.2.2.2 hlT)
          rw [nAt_on HC0.out] at HAT
          unfold plA at HAT
          have HQ := Lib.hid (inner_lt (q := pcsOf (l.take k)) (c := c) HM.out hlT)
          have HW := Lib.hid (fun q W hq => with_any q (T : Int) W hq)
          have HPT := Lib.hid (pcs_take HX.out)
          have HIH := Lib.hid (@inner_hit M T (pcsOf (l.take k)) x.ps c)
          have HIM := Lib.hid (@inner_miss M T (pcsOf (l.take k)) x.ps c)
          rw [← HPT.out] at HIH HIM
          generalize innerM M T (pcsOf (l.take k)) c = q at *
          generalize hq2 : innerM M T (pcsOf (l.take (k + 1))) c = q2 at *
          have HQ2 := Lib.hid hq2
          clear hq2
          generalize hz : nOn x.ps c T = z at *
          clear hz hxo
          go_wp2_with fail
          refine HAT.out.mono ?_
          rintro e w3 ⟨rfl, hb3⟩
          have HB3 := Lib.hid (HBW.out.trans (hb3.mono HBW.out.size))
          clear hb3
          by_cases hz0 : 0 < z
          · have hz1 : (0 : Int) < (z : Int) := by omega
            have HWC := Lib.hid (fun W => HW.out q W HQ.out)
            rw [withI_nat hlT, HIH.out hz0] at HWC
            go_wp2_with fail
            refine (HWC.out _).mono ?_
            rintro e w4 ⟨rfl, rfl⟩
            go_wp2_with fail
            go_roundg (n - (k + 1))
            case measure => have := HG.out; omega
            case rel => exact ⟨k + 1, by omega, rfl, by go_num, by rw [HQ2.out], HB3.out⟩
          · have hz1 : decide ((0 : Int) < (z : Int)) = false := decide_eq_false (by omega)
            have hz2 : z = 0 := by omega
            subst hz2
            have HQQ := Lib.hid (HIM.out hz0)
            clear hz0 hz1
            go_wp2_with fail
            go_roundg (n - (k + 1))
            case measure => have := HG.out; omega
            case rel => exact ⟨k + 1, by omega, rfl, by go_num, by rw [HQ2.out, HQQ.out], HB3.out⟩
        · have hltz : ¬ (k : Int) < (n : Int) := by omega
          have HT := Lib.hid (show innerM M T (pcsOf (l.take k)) c = innerM M T (pcsOf l) c by rw [List.take_of_length_le (by rw [HN.out]; omega)])
          rw [HE.out] at HT
          generalize innerM M T (pcsOf (l.take k)) c = q at *
          go_wp2_with fail
          go_roundg (64 - (T + 1))
          case measure => have := HGT.out; omega
          case rel => exact ⟨T + 1, by omega, rfl, by go_num, by rw [HT.out], HBW.out⟩
    · have hT64 : T = 64 := by omega
      subst hT64
      have HEN := Lib.hid (show winT (pcsOf l) c 64 = winN (pcsOf l) c from rfl)
      have HBE := Lib.hid (HB1.out.trans (HBT.out.mono HB1.out.size))
      generalize winT (pcsOf l) c 64 = M at *
      go_wp2
      go_ret
      exact ⟨ret_natU HEN.out, HBE.out⟩

/-! ### Load, Room, Free -/
theorem sumS_bound : ∀ (ps : List Sp), (∀ p ∈ ps, 0 ≤ p.2 ∧ p.2 ≤ 64) → 0 ≤ sumS ps ∧ sumS ps ≤ 64 * (ps.length : Int)
  | [], _ => by simp [sumS]
  | p :: r, h => by
    have h1 := h p (by simp)
    have h2 := sumS_bound r fun q hq => h q (by simp [hq])
    rw [sumS, List.length_cons]
    omega
theorem sumS_snoc {ps : List Sp} {k : Nat} {p : Sp} (hp : ps[k]? = some p) : sumS (ps.take (k + 1)) = sumS (ps.take k) + p.2 := by
  rw [List.take_add_one, hp, Option.toList_some, sumS_append]
  simp [sumS]
/-- What all numbers of a light plan are. -/
structure LightL (l : List Pl) : Prop where
  len : l.length ≤ 300
  ok : ∀ x ∈ l, PlOk x ∧ x.ps.length ≤ 1000
theorem LightL.take {l : List Pl} (h : LightL l) (k : Nat) : LightL (l.take k) := ⟨by have := h.len; rw [List.length_take]; omega, fun x hx => h.ok x (List.mem_of_mem_take hx)⟩
/-- Shares of a frame. -/
def Shares (l : List Pl) : Prop := ∀ x ∈ l, 0 ≤ x.s ∧ x.s ≤ 64
theorem shares_wholes {l : List Pl} (h : Shares l) (c : Int) : ∀ p ∈ wholesT l c, 0 ≤ p.2 ∧ p.2 ≤ 64 := by
  intro p hp
  obtain ⟨x, hx, rfl⟩ := List.mem_map.1 hp
  exact h x (List.mem_filter.1 hx).1

set_option maxRecDepth 100000 in
set_option maxHeartbeats 2000000 in
theorem refLoad_any (f : Int) (m : Nat) (v : Value) (l : List Pl) (c : Int) (w : World) (h : PlsAt w v l) (hL : LightL l) (hS : Shares l) (hc : 0 ≤ c) :
    Calls Try.prog 25 #[planA f m v, .int .i64 c] w (RetB (.int .i64 (loadN l c)) w) := by
  have hlen := hL.len
  have HWI := Lib.hid (fun w h => refWindows_any f m v l c w h (by omega) hL.ok hc)
  have HWH := Lib.hid (fun w h => refWholes_any f m v l c w h (by omega))
  unfold planA at HWI HWH
  have HCN := Lib.hid (fun W => refCount_any (winN (pcsOf l) c) W (winN_lt _ _))
  have HSH := Lib.hid (shares_wholes hS c)
  have HWL := Lib.hid (show (wholesT l c).length ≤ 300 from Nat.le_trans (wholes_le _ _) hlen)
  have HC64 := Lib.hid (cnt_le (winN (pcsOf l) c))
  have HLD := Lib.hid (show loadN l c = (cnt (winN (pcsOf l) c) : Int) + sumS (wholesT l c) from rfl)
  have HH := Lib.hid h
  obtain ⟨w1, P, hw1, hP, hPl, hb1, hbox⟩ := box_any w #[.int .i64 f, .int .u32 m, v] 25
  have HB1 := Lib.hid hb1
  have HBOX := Lib.hid hbox
  obtain ⟨r0, r1, r2⟩ := three_heads hbox
  generalize wholesT l c = ws at *
  generalize winN (pcsOf l) c = win at *
  generalize loadN l c = ld at *
  clear h hL hS hb1 hbox
  unfold planA
  go_enter Try.func25, Try.ntmps25
  go_wp2_with fail
  refine (HWI.out _ (HH.out.keep HB1.out)).mono ?_
  rintro e w2 ⟨rfl, hb2⟩
  have HB2 := Lib.hid hb2
  clear hb2
  go_wp2_with fail
  refine (HCN.out _).mono ?_
  rintro e w3 ⟨rfl, hb3⟩
  have HB3 := Lib.hid (HB2.out.trans (hb3.mono HB2.out.size))
  obtain ⟨q0, q1, q2⟩ := three_heads (keep_block HBOX.out HB3.out)
  have HB3' := Lib.hid (HB1.out.trans (HB3.out.mono HB1.out.size))
  generalize hk0 : cnt win = K0 at *
  have HK0 := Lib.hid hk0
  clear hb3 hk0
  go_wp2_with fail
  refine (HWH.out _ (HH.out.keep HB3'.out)).mono ?_
  rintro e w4 ⟨v4, rfl, hs4, hb4⟩
  have HB4 := Lib.hid (HB3'.out.trans (hb4.mono HB3'.out.size))
  obtain ⟨A4, c4, rfl, _, _, _, hat⟩ := hs4
  have HAT := Lib.hid hat
  obtain ⟨n, hn⟩ : ∃ n, ws.length = n := ⟨_, rfl⟩
  rw [hn] at HAT HWL ⊢
  have HN := Lib.hid hn
  have hwl := HWL.out
  clear hb4 hat hn hw1 hP r0 r1 r2 q0 q1 q2
  go_wp2_with fail
  go_loopg [5, 7] n (fun gg s5 s7 wr => ∃ (k : Nat) (t : Int), k ≤ n ∧ gg = n - k ∧ s7 = .int .i64 k ∧ s5 = .int .i64 t ∧ t = (K0 : Int) + sumS (ws.take k) ∧ w4 = wr)
  case atStart => exact ⟨0, (K0 : Int), Nat.zero_le _, by omega, rfl, rfl, by simp [sumS], rfl⟩
  case round =>
    obtain ⟨k, t, hk, hg, rfl, rfl, ht, rfl⟩ := hrel
    have HG := Lib.hid hg
    have HT := Lib.hid ht
    clear hg
    by_cases hlt : k < n
    · have hltz : (k : Int) < (n : Int) := by omega
      have hk0 : (0 : Int) ≤ (k : Int) := by omega
      obtain ⟨p, hp⟩ := exP_at (xs := ws) (k := k) (by rw [HN.out]; exact hlt)
      obtain ⟨b, off, hA, hbl, hcell⟩ := HAT.out (by omega)
      subst hA
      obtain ⟨p0, p1⟩ := hcell k p hp
      have HSN := Lib.hid (sumS_snoc hp)
      have hpb := HSH.out p (List.mem_of_getElem? hp)
      have htb := sumS_bound (ws.take k) fun q hq => HSH.out q (List.mem_of_mem_take hq)
      have htl : (ws.take k).length ≤ 300 := by rw [List.length_take]; omega
      have hk64 := HC64.out
      have hk64' : K0 ≤ 64 := hk64
      have t1 : 0 ≤ t := by rw [ht]; omega
      have t2 : t ≤ 20000 := by rw [ht]; omega
      obtain ⟨pu, psh⟩ := p
      simp only at p0 p1 hpb HSN
      obtain ⟨hpb1, hpb2⟩ := hpb
      clear hp hcell ht htb htl hk64 hk64'
      go_wp2_with fail
      go_roundg (n - (k + 1))
      case measure => have := HG.out; omega
      case rel => exact ⟨k + 1, t + psh, by omega, rfl, by go_num, rfl, by rw [HSN.out, HT.out]; omega, rfl⟩
    · have hltz : ¬ (k : Int) < (n : Int) := by omega
      have HE : Hid (t = ld) := by
        show t = ld
        rw [HLD.out, HT.out, List.take_of_length_le (by rw [HN.out]; omega)]
      clear ht
      go_wp2
      go_ret
      exact ⟨ret_int HE.out, HB4.out⟩

theorem load_bound {l : List Pl} (hL : LightL l) (hS : Shares l) (c : Int) : 0 ≤ loadN l c ∧ loadN l c ≤ 20000 := by
  have h1 := sumS_bound (wholesT l c) (shares_wholes hS c)
  have h2 := wholes_le l c
  have h3 := cnt_le (winN (pcsOf l) c)
  have h4 := hL.len
  unfold loadN
  omega
/-- What Room tells. -/
def roomN (f : Int) (m : Nat) (l : List Pl) (c : Int) : Int := if hasC m c = true then f - loadN l c else 0
/-- The first k rooms. -/
def freeT (f : Int) (m : Nat) (l : List Pl) : Nat → Int
  | 0 => 0
  | k + 1 => freeT f m l k + roomN f m l (k : Int)
theorem room_bound (f : Int) (m : Nat) (l : List Pl) (hL : LightL l) (hS : Shares l) (hf : 0 ≤ f) (hf2 : f ≤ 64) (c : Int) : -20000 ≤ roomN f m l c ∧ roomN f m l c ≤ 64 := by
  have h := load_bound hL hS c
  unfold roomN
  split <;> omega
theorem free_bound (f : Int) (m : Nat) (l : List Pl) (hL : LightL l) (hS : Shares l) (hf : 0 ≤ f) (hf2 : f ≤ 64) : ∀ k : Nat, -20000 * (k : Int) ≤ freeT f m l k ∧ freeT f m l k ≤ 64 * (k : Int)
  | 0 => by simp [freeT]
  | k + 1 => by
    have h1 := free_bound f m l hL hS hf hf2 k
    have h2 := room_bound f m l hL hS hf hf2 (k : Int)
    rw [freeT]
    omega
end Go.Proofs.Ytkgkanmccaodfaa

/-
  windows of the program: each core's windows in an array.
  Conditions: the slice reads as places; the numbers are of their kinds.
-/
set_option linter.unusedVariables false
namespace Go.Proofs.Ytkgkanmccaodfaa
open Go.RowKit Go.Sort

/-- Sixteen words, sixteen numbers. -/
def arrU (g : Nat → Nat) : Array Value := ((List.range 16).map fun i => Value.int .u64 (g i : Nat)).toArray
def arrI (g : Nat → Int) : Array Value := ((List.range 16).map fun i => Value.int .i64 (g i)).toArray
theorem arrU_size (g : Nat → Nat) : (arrU g).size = 16 := by simp [arrU]
theorem arrI_size (g : Nat → Int) : (arrI g).size = 16 := by simp [arrI]
theorem arrU_get (g : Nat → Nat) {i : Nat} (h : i < 16) : (arrU g)[i]? = some (.int .u64 (g i : Nat)) := by simp [arrU, h]
theorem arrI_get (g : Nat → Int) {i : Nat} (h : i < 16) : (arrI g)[i]? = some (.int .i64 (g i)) := by simp [arrI, h]
theorem arrU_set (g : Nat → Nat) (j x : Nat) : (arrU g).setIfInBounds j (.int .u64 x) = arrU fun i => if i = j then x else g i := by
  apply Array.ext_getElem?
  intro i
  rw [Array.getElem?_setIfInBounds]
  by_cases hi : i < 16
  · rw [arrU_get _ hi, arrU_get _ hi]
    by_cases e : j = i
    · subst e
      simp [arrU_size, hi]
    · rw [if_neg e, if_neg (fun h => e h.symm)]
  · rw [Array.getElem?_eq_none (by rw [arrU_size]; omega), Array.getElem?_eq_none (by rw [arrU_size]; omega)]
    split
    · rw [if_neg (by rw [arrU_size]; omega)]
    · rfl
theorem arrI_set (g : Nat → Int) (j : Nat) (x : Int) : (arrI g).setIfInBounds j (.int .i64 x) = arrI fun i => if i = j then x else g i := by
  apply Array.ext_getElem?
  intro i
  rw [Array.getElem?_setIfInBounds]
  by_cases hi : i < 16
  · rw [arrI_get _ hi, arrI_get _ hi]
    by_cases e : j = i
    · subst e
      simp [arrI_size, hi]
    · rw [if_neg e, if_neg (fun h => e h.symm)]
  · rw [Array.getElem?_eq_none (by rw [arrI_size]; omega), Array.getElem?_eq_none (by rw [arrI_size]; omega)]
    split
    · rw [if_neg (by rw [arrI_size]; omega)]
    · rfl
theorem arrU_congr {g h : Nat → Nat} (e : ∀ i, i < 16 → g i = h i) : arrU g = arrU h := by
  apply Array.ext_getElem?
  intro i
  by_cases hi : i < 16
  · rw [arrU_get _ hi, arrU_get _ hi, e i hi]
  · rw [Array.getElem?_eq_none (by rw [arrU_size]; omega), Array.getElem?_eq_none (by rw [arrU_size]; omega)]
theorem arrI_congr {g h : Nat → Int} (e : ∀ i, i < 16 → g i = h i) : arrI g = arrI h := by
  apply Array.ext_getElem?
  intro i
  by_cases hi : i < 16
  · rw [arrI_get _ hi, arrI_get _ hi, e i hi]
  · rw [Array.getElem?_eq_none (by rw [arrI_size]; omega), Array.getElem?_eq_none (by rw [arrI_size]; omega)]
theorem arrU_one (g : Nat → Nat) : (arrU g).all (·.oneCell') = true := by
  rw [Array.all_eq_true_iff_forall_mem]
  intro v hv
  simp only [arrU, List.mem_toArray, List.mem_map] at hv
  obtain ⟨i, _, rfl⟩ := hv
  rfl
theorem arrI_one (g : Nat → Int) : (arrI g).all (·.oneCell') = true := by
  rw [Array.all_eq_true_iff_forall_mem]
  intro v hv
  simp only [arrI, List.mem_toArray, List.mem_map] at hv
  obtain ⟨i, _, rfl⟩ := hv
  rfl
theorem arrU_zero : arrU (fun _ => 0) = #[.int .u64 0, .int .u64 0, .int .u64 0, .int .u64 0, .int .u64 0, .int .u64 0, .int .u64 0, .int .u64 0, .int .u64 0, .int .u64 0, .int .u64 0, .int .u64 0, .int .u64 0, .int .u64 0, .int .u64 0, .int .u64 0] := rfl
theorem arrI_zero : arrI (fun _ => 0) = #[.int .i64 0, .int .i64 0, .int .i64 0, .int .i64 0, .int .i64 0, .int .i64 0, .int .i64 0, .int .i64 0, .int .i64 0, .int .i64 0, .int .i64 0, .int .i64 0, .int .i64 0, .int .i64 0, .int .i64 0, .int .i64 0] := rfl
theorem Try.sizeAU (g : Nat → Nat) : (Try.prog.info? 54).map (·.size) = some (arrU g).size := by rw [arrU_size]; kernel_rfl
theorem Try.sizeAI (g : Nat → Int) : (Try.prog.info? 55).map (·.size) = some (arrI g).size := by rw [arrI_size]; kernel_rfl
/-- The block is these words. -/
abbrev ArrU (W : World) (N : Nat) (g : Nat → Nat) : Prop := W.heap[N]? = some (.cells (arrU g) 54 (0, 0))
abbrev ArrI (W : World) (N : Nat) (g : Nat → Int) : Prop := W.heap[N]? = some (.cells (arrI g) 55 (0, 0))
theorem ArrU.cell {W : World} {N : Nat} {g : Nat → Nat} (h : ArrU W N g) {i : Nat} (hi : i < 16) : W.cell? ⟨N, i, none⟩ = some (.int .u64 (g i : Nat)) := by rw [cell_of_row W N i _ _ _ h, arrU_get _ hi]
theorem ArrI.cell {W : World} {N : Nat} {g : Nat → Int} (h : ArrI W N g) {i : Nat} (hi : i < 16) : W.cell? ⟨N, i, none⟩ = some (.int .i64 (g i)) := by rw [cell_of_row W N i _ _ _ h, arrI_get _ hi]
theorem ArrU.frozen {W : World} {N : Nat} {g : Nat → Nat} (h : ArrU W N g) (i : Nat) : W.frozen? ⟨N, i, none⟩ = false := by
  have h' : W.heap[N]? = some (.cells (arrU g) 54 (0, 0)) := h
  simp [World.frozen?, h']
theorem ArrI.frozen {W : World} {N : Nat} {g : Nat → Int} (h : ArrI W N g) (i : Nat) : W.frozen? ⟨N, i, none⟩ = false := by
  have h' : W.heap[N]? = some (.cells (arrI g) 55 (0, 0)) := h
  simp [World.frozen?, h']
theorem ArrU.set {W : World} {N : Nat} {g : Nat → Nat} (h : ArrU W N g) (j x : Nat) : ArrU (W.setCell ⟨N, j, none⟩ (.int .u64 x)) N fun i => if i = j then x else g i := by
  have := heap_setCell_mem W N j _ _ _ (.int .u64 x) h
  rwa [arrU_set] at this
theorem ArrI.set {W : World} {N : Nat} {g : Nat → Int} (h : ArrI W N g) (j : Nat) (x : Int) : ArrI (W.setCell ⟨N, j, none⟩ (.int .i64 x)) N fun i => if i = j then x else g i := by
  have := heap_setCell_mem W N j _ _ _ (.int .i64 x) h
  rwa [arrI_set] at this

/-! ### What windows makes of pieces -/
def winF (m : Nat) (q : List Pc) (i : Nat) : Nat := if m.testBit i = true then winN q (i : Int) else 0
def ApartP (m : Nat) (q : List Pc) : Prop := ∀ i : Nat, i < 16 → m.testBit i = true → ∀ t, t < 64 → nOn q (i : Int) t ≤ 1
theorem winF_nil (m : Nat) : arrU (winF m []) = arrU fun _ => 0 := arrU_congr fun i _ => by
  unfold winF
  rw [winN_nil]
  split <;> rfl
theorem nOn_skip {m : Nat} {q : List Pc} {y : Pc} (h : hasC m y.c = false) {i : Nat} (hi : i < 16) (hb : m.testBit i = true) (t : Nat) : nOn (q ++ [y]) (i : Int) t = nOn q (i : Int) t := by
  rw [nOn_snoc]
  have : onB (i : Int) t y = false := by
    unfold onB
    rw [decide_eq_false (fun e => by rw [e, hasC_nat hi, hb] at h; cases h), Bool.false_and]
  rw [this]
  rfl
theorem winF_skip {m : Nat} {q : List Pc} {y : Pc} (h : hasC m y.c = false) : arrU (winF m (q ++ [y])) = arrU (winF m q) := arrU_congr fun i hi => by
  unfold winF
  split
  · rename_i hb
    exact setP_congr fun t _ => by rw [nOn_skip h hi hb]
  · rfl
theorem apart_skip {m : Nat} {q : List Pc} {y : Pc} (h : hasC m y.c = false) : ApartP m (q ++ [y]) ↔ ApartP m q :=
  ⟨fun hp i hi hb t ht => by rw [← nOn_skip h hi hb]; exact hp i hi hb t ht, fun hp i hi hb t ht => by rw [nOn_skip h hi hb]; exact hp i hi hb t ht⟩
theorem nOn_hit {q : List Pc} {C yt : Nat} (t : Nat) : nOn (q ++ [⟨(C : Int), yt⟩]) (C : Int) t = nOn q (C : Int) t + (yt.testBit t).toNat := by
  rw [nOn_snoc]
  unfold onB
  rw [decide_eq_true rfl, Bool.true_and]
theorem nOn_far {q : List Pc} {C yt i : Nat} (h : i ≠ C) (t : Nat) : nOn (q ++ [⟨(C : Int), yt⟩]) (i : Int) t = nOn q (i : Int) t := by
  rw [nOn_snoc]
  unfold onB
  rw [decide_eq_false (show ¬ ((C : Int) = (i : Int)) by omega), Bool.false_and]
  rfl
theorem winN_hit {q : List Pc} {C yt : Nat} (hy : yt < 18446744073709551616) : winN q (C : Int) ||| yt = winN (q ++ [⟨(C : Int), yt⟩]) (C : Int) := by
  have hl : winN q (C : Int) ||| yt < 18446744073709551616 := by
    have h1 := winN_lt q (C : Int)
    rw [← two64] at h1 hy ⊢
    exact Nat.or_lt_two_pow h1 hy
  refine eq_setP hl fun t ht => ?_
  rw [Nat.testBit_or, winN_bit ht, nOn_hit]
  cases yt.testBit t with
  | false => simp
  | true => simp
theorem winF_hit {m : Nat} {q : List Pc} {C yt : Nat} (hb : m.testBit C = true) (hy : yt < 18446744073709551616) :
    (arrU fun i => if i = C then winF m q C ||| yt else winF m q i) = arrU (winF m (q ++ [⟨(C : Int), yt⟩])) := arrU_congr fun i hi => by
  unfold winF
  by_cases e : i = C
  · subst e
    rw [if_pos rfl, if_pos hb, if_pos hb, winN_hit hy]
  · rw [if_neg e]
    split
    · exact setP_congr fun t _ => by rw [nOn_far e]
    · rfl
theorem apart_hit {m : Nat} {q : List Pc} {C yt : Nat} (hC : C < 16) (hb : m.testBit C = true) (hy : yt < 18446744073709551616) :
    ApartP m (q ++ [⟨(C : Int), yt⟩]) ↔ ApartP m q ∧ winF m q C &&& yt = 0 := by
  have hw : winF m q C = winN q (C : Int) := if_pos hb
  rw [hw]
  constructor
  · intro h
    refine ⟨fun i hi hbi t ht => ?_, ?_⟩
    · have := h i hi hbi t ht
      by_cases e : i = C
      · subst e; rw [nOn_hit] at this; omega
      · rwa [nOn_far e] at this
    · have hl : winN q (C : Int) &&& yt < 18446744073709551616 := Nat.lt_of_le_of_lt Nat.and_le_right hy
      refine eq_of_bits hl (by decide) fun t ht => ?_
      rw [Nat.testBit_and, Nat.zero_testBit, winN_bit ht]
      have := h C hC hb t ht
      rw [nOn_hit] at this
      cases hyt : yt.testBit t with
      | false => simp
      | true =>
        rw [hyt] at this
        simp only [Bool.toNat_true] at this
        rw [decide_eq_false (show ¬ 0 < nOn q (C : Int) t by omega)]
        rfl
  · rintro ⟨h, hz⟩ i hi hbi t ht
    have h0 := h i hi hbi t ht
    by_cases e : i = C
    · subst e
      rw [nOn_hit]
      have hbit : (winN q (i : Int) &&& yt).testBit t = false := by rw [hz]; exact Nat.zero_testBit t
      rw [Nat.testBit_and, winN_bit ht] at hbit
      cases hyt : yt.testBit t with
      | false => simpa using h0
      | true =>
        rw [hyt, Bool.and_true] at hbit
        have := of_decide_eq_false hbit
        simp only [Bool.toNat_true]
        omega
    · rw [nOn_far e]; exact h0

/-- What windows answers. -/
def RetWin (m : Nat) (q : List Pc) (w : World) (e : Ending) (w' : World) : Prop := ∃ ap : Bool, e = .returned (.tuple #[.agg (arrU (winF m q)), .bool ap]) ∧ (ap = true ↔ ApartP m q) ∧ Below w.heap.size w w'
theorem take_pcs {ps : List Pc} {j : Nat} {y : Pc} (hy : ps[j]? = some y) : ps.take (j + 1) = ps.take j ++ [y] := by rw [List.take_add_one, hy]; rfl

set_option maxRecDepth 100000 in
set_option maxHeartbeats 4000000 in
theorem windows_any (f : Int) (m : Nat) (v : Value) (l : List Pl) (w : World) (h : PlsAt w v l) (hl : l.length ≤ 1000) (ho : ∀ x ∈ l, PlOk x ∧ x.ps.length ≤ 1000) (hm : m < 4294967296) :
    Calls Try.prog 71 #[planA f m v] w (RetWin m (pcsOf l) w) := by
  have HO := Lib.hid ho
  have HHC := Lib.hid (fun v c W => hasCore_any f m v c W hm)
  unfold planA at HHC
  clear ho hm
  obtain ⟨A, cA, rfl, hlc, hcm⟩ := h.form
  have HL := Lib.hid h
  obtain ⟨w1, P, hw1, hP, hPl, hb1, hbox⟩ := box_any w #[.int .i64 f, .int .u32 m, .slice A l.length cA] 25
  obtain ⟨n, hn⟩ : ∃ n, l.length = n := ⟨_, rfl⟩
  rw [hn] at HL hlc hl hw1 hbox ⊢
  have HN := Lib.hid hn
  have HB1 := Lib.hid hb1
  have HBOX := Lib.hid hbox
  obtain ⟨r0, r1, r2⟩ := three_heads hbox
  have hb1s := Lib.hid hb1.size
  clear h hn hb1 hbox
  unfold planA
  obtain ⟨wz, R2, hwz, hNz, hNl, hbz, hzb⟩ := box_any w1 (arrU fun _ => 0) 54
  have HAZ := Lib.hid (show ArrU wz R2 (winF m []) from by show _ = some (Obj.cells (arrU (winF m [])) _ _); rw [winF_nil]; exact hzb)
  have HNP := Lib.hid (show P < R2 by omega)
  have HNW := Lib.hid (show w.heap.size ≤ R2 by have := hb1s.out; omega)
  have HPZ := Lib.hid (Nat.lt_of_lt_of_le hPl hbz.size)
  have HBX0 := Lib.hid (keep_block HBOX.out hbz)
  have HBZ := Lib.hid (HB1.out.trans (hbz.mono HB1.out.size))
  obtain ⟨p0, p1, p2⟩ := three_heads HBX0.out
  rw [arrU_zero] at hwz
  clear hbz hzb
  go_enter Try.func71, Try.ntmps71
  go_wp2_with fail
  clear hw1 hP r0 r1 r2 hwz hNz p0 p1 p2
  go_loopg [3, 5, 7, 11] n (fun gg s3 _ _ s11 wr => ∃ (k : Nat) (ap : Bool), k ≤ n ∧ gg = n - k ∧ s11 = .int .i64 k ∧ s3 = .bool ap ∧ Hid (ap = true ↔ ApartP m (pcsOf (l.take k))) ∧ Apart (fun b => b = R2) wz wr ∧ ArrU wr R2 (winF m (pcsOf (l.take k))))
  case atStart => exact ⟨0, true, Nat.zero_le _, by omega, rfl, rfl, ⟨fun _ i _ _ t _ => Nat.zero_le _, fun _ => rfl⟩, Apart.refl _ _, HAZ.out⟩
  case round =>
    obtain ⟨k, ap, hk, hg, rfl, rfl, HAP, hat, harr⟩ := hrel
    have HG := Lib.hid hg
    have HAT := Lib.hid hat
    have HARR := Lib.hid harr
    have HB := Lib.hid (HBZ.out.trans (hat.below HBZ.out.size fun b hb e => by have := HNW.out; omega))
    have HBX := Lib.hid ((hat.block P HPZ.out (by have := HNP.out; omega)).trans HBX0.out)
    have hPl2 : P < wr.heap.size := heap_lt HBX.out
    obtain ⟨r0, r1, r2⟩ := three_heads HBX.out
    clear hg hat harr
    by_cases hlt : k < n
    · have hk0 : (0 : Int) ≤ (k : Int) := by omega
      have hltz : (k : Int) < (n : Int) := by omega
      obtain ⟨x, hx⟩ := exP_at (xs := l) (k := k) (by rw [HN.out]; exact hlt)
      obtain ⟨b, off, B, d, hA, hbl, _, hpl, hps⟩ := HL.out.at_ hx
      obtain ⟨c0, c1, c2, c3⟩ := hpl.keep (HB.out.block b hbl)
      subst hA
      simp only at c0 c1 c2 c3
      have HX := Lib.hid hx
      have HPS := Lib.hid hps
      clear hx hps hpl
      obtain ⟨w2, N, hw2, hN, hNl, hb2, hxbox⟩ := box_any wr #[.int .i64 x.u, .int .i64 x.s, .int .i64 x.c, .slice B x.ps.length d] 38
      have HB2 := Lib.hid hb2
      have HXB := Lib.hid hxbox
      obtain ⟨x0, x1, x2, x3⟩ := four_heads hxbox
      obtain ⟨p0, p1, p2⟩ := three_heads (keep_block HBX.out hb2)
      clear hb2 hxbox
      have HPT := Lib.hid (pcs_take HX.out)
      have hxo := HO.out x (List.mem_of_getElem? HX.out)
      have HYO := Lib.hid hxo.1.2.2.2
      obtain ⟨xu, xs, xc, ps⟩ := x
      simp only at *
      generalize hq : pcsOf (l.take k) = q at *
      clear hq
      obtain ⟨np, hnp⟩ : ∃ np, ps.length = np := ⟨_, rfl⟩
      rw [hnp] at HPS hw2 HXB c3 x3
      have hnpl : np ≤ 1000 := by rw [← hnp]; exact hxo.2
      have HNP2 := Lib.hid hnp
      have HAT2 := Lib.hid (HAT.out.trans (Apart.of_below (F := fun b => b = R2) HB2.out) fun _ _ e => e)
      have HARR2 : Hid (ArrU w2 R2 (winF m q)) := keep_block HARR.out HB2.out
      obtain ⟨wo, rfl⟩ : ∃ wo : World, wo = wr := ⟨_, rfl⟩
      clear hnp hxo r0 r1 r2
      go_wp2_with fail
      clear hw2 hN x0 x1 x2 x3 p0 p1 p2 c0 c1 c2 c3
      go_loopg [3, 7, 18] np (fun gg s3 _ s18 wr => ∃ (j : Nat) (ap : Bool), j ≤ np ∧ gg = np - j ∧ s18 = .int .i64 j ∧ s3 = .bool ap ∧ Hid (ap = true ↔ ApartP m (q ++ ps.take j)) ∧ Apart (fun b => b = R2) wz wr ∧ ArrU wr R2 (winF m (q ++ ps.take j)))
      case atStart => exact ⟨0, ap, Nat.zero_le _, by omega, rfl, rfl, by rw [List.take_zero, List.append_nil]; exact HAP, HAT2.out, by rw [List.take_zero, List.append_nil]; exact HARR2.out⟩
      case round =>
        obtain ⟨j, aj, hj, hgj, rfl, rfl, HAPJ, hatj, harrj⟩ := hrel
        have HGJ := Lib.hid hgj
        have HATJ := Lib.hid hatj
        have HARJ := Lib.hid harrj
        have HBJ := Lib.hid (HBZ.out.trans (hatj.below HBZ.out.size fun b hb e => by have := HNW.out; omega))
        have HBXJ := Lib.hid ((hatj.block P HPZ.out (by have := HNP.out; omega)).trans HBX0.out)
        have hPj : P < wr.heap.size := heap_lt HBXJ.out
        obtain ⟨r0, r1, r2⟩ := three_heads HBXJ.out
        clear hgj hatj harrj
        by_cases hlj : j < np
        · have hltj : (j : Int) < (np : Int) := by omega
          have hj0 : (0 : Int) ≤ (j : Int) := by omega
          obtain ⟨y, hy⟩ := exP_at (xs := ps) (k := j) (by rw [HNP2.out]; exact hlj)
          obtain ⟨b2, o2, hA2, hbl2, _, y0, y1⟩ := (HPS.out.keep HBJ.out).at_ hy
          subst hA2
          have HTJ := Lib.hid (take_pcs hy)
          have hyt := (HYO.out y (List.mem_of_getElem? hy)).2
          obtain ⟨yc, yt⟩ := y
          simp only at y0 y1 hyt
          obtain ⟨w3, M3, hw3, hM3, hM3l, hb3, hyb⟩ := box_any wr #[.int .i64 yc, .int .u64 yt] 50
          obtain ⟨z0, z1⟩ := two_heads hyb
          obtain ⟨p0, p1, p2⟩ := three_heads (keep_block HBXJ.out hb3)
          have HB3 := Lib.hid hb3
          have HYB := Lib.hid hyb
          have HCC := Lib.hid (HHC.out (.slice (some ⟨b, off, none⟩) n cA) yc)
          have HYT := Lib.hid hyt
          clear hy hb3 hyb hyt
          cases hh : hasC m yc with
          | false =>
            rw [hh] at HCC
            have HW := Lib.hid (winF_skip (q := q ++ ps.take j) (y := ⟨yc, yt⟩) hh)
            have HA := Lib.hid (apart_skip (q := q ++ ps.take j) (y := ⟨yc, yt⟩) hh)
            clear hh
            go_wp2_with fail
            refine (HCC.out _).mono ?_
            rintro e w4 ⟨rfl, hb4⟩
            have HB4 := Lib.hid (HB3.out.trans (hb4.mono HB3.out.size))
            clear hb4
            go_wp2_with fail
            go_roundg (np - (j + 1))
            case measure => have := HGJ.out; omega
            case rel =>
              refine ⟨j + 1, aj, by omega, rfl, by go_num, rfl, ?_, HATJ.out.trans (Apart.of_below (F := fun b => b = R2) HB4.out) (fun _ _ e => e), ?_⟩
              · show _ ↔ _
                rw [HTJ.out, ← List.append_assoc, HA.out]
                exact HAPJ
              · show _ = some (Obj.cells (arrU _) _ _)
                rw [HTJ.out, ← List.append_assoc, HW.out]
                exact keep_block HARJ.out HB4.out
          | true =>
            rw [hh] at HCC
            obtain ⟨C, rfl⟩ : ∃ C : Nat, yc = (C : Int) := ⟨yc.toNat, by have := hasC_range hh; omega⟩
            have hC : C < 16 := by have := hasC_range hh; omega
            have hCz : (C : Int) < 16 := by omega
            have hC0 : (0 : Int) ≤ (C : Int) := by omega
            have hb : m.testBit C = true := by rw [← hasC_nat hC]; exact hh
            have HW := Lib.hid (winF_hit (q := q ++ ps.take j) (m := m) hb HYT.out)
            have HA := Lib.hid (apart_hit (q := q ++ ps.take j) hC hb HYT.out)
            have HML := Lib.hid (show winF m (q ++ ps.take j) C < 18446744073709551616 by unfold winF; rw [if_pos hb]; exact winN_lt _ _)
            have HQ := Lib.hid HARJ.out
            generalize hM : winF m (q ++ ps.take j) C = M at *
            have HM := Lib.hid hM
            clear hh hb hM
            go_wp2_with fail
            refine (HCC.out _).mono ?_
            rintro e w4 ⟨rfl, hb4⟩
            have HB4 := Lib.hid (HB3.out.trans (hb4.mono HB3.out.size))
            have HAR4 : Hid (ArrU w4 R2 (winF m (q ++ ps.take j))) := keep_block HARJ.out HB4.out
            have HYB4 := Lib.hid (keep_block HYB.out hb4)
            have HAT4 := Lib.hid (HATJ.out.trans (Apart.of_below (F := fun b => b = R2) HB4.out) fun _ _ e => e)
            have a1 : w4.cell? ⟨R2, C, none⟩ = some (.int .u64 M) := by rw [← HM.out]; exact HAR4.out.cell hC
            have a2 := HAR4.out.frozen C
            obtain ⟨z0, z1⟩ := two_heads HYB4.out
            have e1 := andU M yt HML.out HYT.out
            have e2 : bits .or .u64 (M : Int) (yt : Int) = ((M ||| yt : Nat) : Int) := bits_or_u64_nat _ _ HML.out HYT.out
            obtain ⟨O, hO⟩ : ∃ O, M ||| yt = O := ⟨_, rfl⟩
            obtain ⟨Z, hZ⟩ : ∃ Z, M &&& yt = Z := ⟨_, rfl⟩
            rw [hO] at e2
            rw [hZ] at e1
            have HZ := Lib.hid hZ
            have HOO := Lib.hid hO
            have HFIN : Hid (∀ (nq : Nat) (a' : Bool), (a' = true ↔ (aj = true ∧ Z = 0)) → (∃ (j' : Nat) (ap : Bool), j' ≤ np ∧ np - (j + 1) = np - j' ∧ Value.int .i64 ((j : Int) + 1) = .int .i64 j' ∧ Value.bool a' = .bool ap ∧ Hid (ap = true ↔ ApartP m (q ++ ps.take j')) ∧ Apart (fun b => b = R2) wz (((w4.drewN nq).setCell ⟨R2, C, none⟩ (.int .u64 O)).drew) ∧ ArrU (((w4.drewN nq).setCell ⟨R2, C, none⟩ (.int .u64 O)).drew) R2 (winF m (q ++ ps.take j')))) := fun nq a' ha => by
              refine ⟨j + 1, a', by omega, rfl, by go_num, rfl, ?_, ?_, ?_⟩
              · show _ ↔ _
                rw [HTJ.out, ← List.append_assoc, HA.out, ha, HAPJ.out, HZ.out]
              · exact ((HAT4.out.drewN nq).set (p := ⟨R2, C, none⟩) (.inl rfl) _).drewN 1
              · have h1 : ArrU (w4.drewN nq) R2 (winF m (q ++ ps.take j)) := HAR4.out
                have h2 := ArrU.set h1 C O
                show _ = some (Obj.cells (arrU _) _ _)
                rw [HTJ.out, ← List.append_assoc, ← HW.out, HOO.out]
                exact h2
            clear hb4 hO hZ p0 p1 p2 y0 y1 r0 r1 r2 hw3
            cases aj with
            | false =>
              go_wp2_with fail
              go_quiet (fail)
              go_wp2_with fail
              go_region
              go_wp2_with fail
              go_roundg (np - (j + 1))
              case measure => have := HGJ.out; omega
              case rel => exact HFIN.out nq false ⟨(fun h => by cases h), (fun h => by cases h.1)⟩
            | true =>
              by_cases hz : Z = 0
              · have hzt : ((Z : Int) == 0) = true := by subst hz; rfl
                have HZZ := Lib.hid hz
                clear hz
                go_wp2_with fail
                go_quiet (fail)
                go_wp2_with fail
                go_region
                go_wp2_with fail
                go_roundg (np - (j + 1))
                case measure => have := HGJ.out; omega
                case rel => exact HFIN.out nq true (by simp [HZZ.out])
              · have hzt : ((Z : Int) == 0) = false := by simpa using hz
                have HZZ := Lib.hid hz
                clear hz
                go_wp2_with fail
                go_quiet (fail)
                go_wp2_with fail
                go_region
                go_wp2_with fail
                go_roundg (np - (j + 1))
                case measure => have := HGJ.out; omega
                case rel => exact HFIN.out nq false ⟨(fun h => by cases h), fun h => absurd h.2 HZZ.out⟩
        · have hltj : ¬ (j : Int) < (np : Int) := by omega
          have HE := Lib.hid (show q ++ ps.take j = pcsOf (l.take (k + 1)) by rw [HPT.out, List.take_of_length_le (by rw [HNP2.out]; omega)])
          go_wp2_with fail
          go_roundg (n - (k + 1))
          case measure => have := HG.out; omega
          case rel => exact ⟨k + 1, aj, by omega, rfl, by go_num, rfl, by rw [← HE.out]; exact HAPJ, HATJ.out, by rw [← HE.out]; exact HARJ.out⟩
    · have hltz : ¬ (k : Int) < (n : Int) := by omega
      have HE := Lib.hid (show pcsOf (l.take k) = pcsOf l by rw [List.take_of_length_le (by rw [HN.out]; omega)])
      generalize hq : pcsOf (l.take k) = q at *
      clear hq
      go_wp2_with (first
        | (refine wpList_load_row rfl _ _ rfl R2 rfl 54 (arrU (winF m q)) (0, 0) _ HARR.out Try.underlying54 rfl (Try.sizeAU _) ?_)
        | (refine wpList_store_row rfl _ _ _ rfl R2 (arrU (winF m q)) rfl rfl 54 (arrU (winF m q)) HARR.out (Try.sizeAU _) rfl (arrU_one _) ?_))
      refine bodyPost_ret (v := .tuple #[.agg (arrU (winF m q)), .bool ap]) (results_row_tmp rfl _ _ R2 _ _ _ _ rfl (setRow_heap _ _ _ _ _ _ HARR.out) Try.underlying54 rfl (Try.sizeAU _) _ rfl) rfl ?_
      refine ⟨ap, by rw [HE.out], by rw [← HE.out]; exact HAP, HB.out.trans ?_⟩
      have hs := HB.out.size
      exact ⟨rfl, rfl, rfl, by simp, fun k hk => setRow_other _ _ _ _ (by have := HNW.out; omega)⟩
end Go.Proofs.Ytkgkanmccaodfaa
