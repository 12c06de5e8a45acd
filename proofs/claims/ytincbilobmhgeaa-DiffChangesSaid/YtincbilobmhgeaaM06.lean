/-
  At, Windows, Load, Room and Free of the document.
  Conditions: the slices read as pieces, as places; the numbers are of their kinds.
-/
import Derived.Test.YtincbilobmhgeaaM05
import Derived.Laws.MakeOwn

/-
  Splits and Cores of program and document.
  Conditions: the slice reads as places.
-/
set_option linter.unusedVariables false
namespace Go.Proofs.Ytincbilobmhgeaa
open Go.RowKit Go.Sort

theorem splits_snoc {l : List Pl} {k : Nat} {x : Pl} (hx : l[k]? = some x) : splitsN (l.take (k + 1)) = splitsN (l.take k) + (!decide (x.ps.length = 0)).toNat := by
  rw [List.take_add_one, hx]
  unfold splitsN
  rw [Option.toList_some, List.countP_append, List.countP_singleton]
  cases decide (x.ps.length = 0) <;> rfl
theorem splits_le (l : List Pl) : splitsN l ≤ l.length := List.countP_le_length

set_option maxRecDepth 100000 in
set_option maxHeartbeats 2000000 in
theorem refSplits_any (f : Int) (m : Nat) (v : Value) (l : List Pl) (w : World) (h : PlsAt w v l) (hl : l.length ≤ 1000) :
    Calls Try.prog 41 #[planA f m v] w (RetB (.int .i64 (splitsN l : Nat)) w) := by
  obtain ⟨A, cA, rfl, hlc, hcm⟩ := h.form
  have HL := Lib.hid h
  obtain ⟨w1, P, hw1, hP, hPl, hb1, hbox⟩ := box_any w #[.int .i64 f, .int .u32 m, .slice A l.length cA] 25
  obtain ⟨n, hn⟩ : ∃ n, l.length = n := ⟨_, rfl⟩
  rw [hn] at HL hlc hl hw1 hbox ⊢
  have HN := Lib.hid hn
  have HB1 := Lib.hid hb1
  have HBOX := Lib.hid hbox
  obtain ⟨r0, r1, r2⟩ := three_heads hbox
  clear h hn hb1 hbox
  unfold planA
  go_enter Try.func41, Try.ntmps41
  go_wp2_with fail
  clear hw1 hP r0 r1 r2
  go_loopg [3, 4] n (fun gg s3 s4 wr => ∃ k : Nat, k ≤ n ∧ gg = n - k ∧ s4 = .int .i64 k ∧ s3 = .int .i64 (splitsN (l.take k) : Nat) ∧ Below w1.heap.size w1 wr)
  case atStart => exact ⟨0, Nat.zero_le _, by omega, rfl, rfl, Below.refl _ _⟩
  case round =>
    obtain ⟨k, hk, hg, rfl, rfl, hbw⟩ := hrel
    have HBW := Lib.hid hbw
    have HB := Lib.hid (HB1.out.trans (hbw.mono HB1.out.size))
    have HG := Lib.hid hg
    have hPl2 : P < wr.heap.size := Nat.lt_of_lt_of_le hPl hbw.size
    have HBX := Lib.hid ((hbw.block P hPl).trans HBOX.out)
    obtain ⟨r0, r1, r2⟩ := three_heads HBX.out
    have HLR := Lib.hid (HL.out.keep HB.out)
    clear hbw hg
    by_cases hlt : k < n
    · have hk0 : True := trivial
      have hltz : (k : Int) < (n : Int) := by omega
      obtain ⟨x, hx⟩ := exP_at (xs := l) (k := k) (by rw [HN.out]; exact hlt)
      obtain ⟨b, off, B, d, hA, hbl, _, ⟨c0, c1, c2, c3⟩, hps⟩ := HLR.out.at_ hx
      subst hA
      simp only at c0 c1 c2 c3
      have HX := Lib.hid hx
      have HPS := Lib.hid hps
      clear hx hps
      have HS := Lib.hid (splits_snoc HX.out)
      have hq : splitsN (l.take k) ≤ k := Nat.le_trans (splits_le _) (by rw [List.length_take]; omega)
      generalize splitsN (l.take k) = q at *
      generalize x.ps.length = z at *
      cases hz : decide (z = 0) with
      | true =>
        rw [hz] at HS
        have hz0 : z = 0 := of_decide_eq_true hz
        subst hz0
        clear hz
        go_wp2_with fail
        go_roundg (n - (k + 1))
        case measure => have := HG.out; omega
        case rel => exact ⟨k + 1, by omega, rfl, by go_num, by rw [HS.out]; rfl, HBW.out⟩
      | false =>
        rw [hz] at HS
        have hz0 : 0 < z := Nat.pos_of_ne_zero (of_decide_eq_false hz)
        have hz1 : (0 : Int) < (z : Int) := by omega
        clear hz
        go_wp2_with fail
        go_roundg (n - (k + 1))
        case measure => have := HG.out; omega
        case rel => exact ⟨k + 1, by omega, rfl, by go_num, by rw [HS.out]; go_num, HBW.out⟩
    · have hkn : k = n := by omega
      have hltz : ¬ (k : Int) < (n : Int) := by omega
      have HE := Lib.hid (show splitsN (l.take k) = splitsN l by rw [List.take_of_length_le (by rw [HN.out]; omega)])
      generalize splitsN (l.take k) = q at *
      clear hkn
      go_wp2
      go_ret
      exact ⟨ret_natU HE.out, HB.out⟩
end Go.Proofs.Ytincbilobmhgeaa

/-
  Cores, Wants and Wholes of program and document.
  Conditions: the slice reads as places.
-/
set_option linter.unusedVariables false
namespace Go.Proofs.Ytincbilobmhgeaa
open Go.RowKit Go.Sort

theorem spans_zero : ∀ n : Nat, spansCells (List.replicate n ((0 : Int), (0 : Int))) = List.replicate (n * 2) (.int .i64 0)
  | 0 => rfl
  | n + 1 => by rw [List.replicate_succ, spansCells_cons, spans_zero n, show (n + 1) * 2 = n * 2 + 1 + 1 by omega, List.replicate_succ, List.replicate_succ]
theorem made_two (m : Nat) : madeCells #[.int .i64 0, .int .i64 0] m = (List.replicate m (Value.int .i64 0)).toArray := by
  apply Array.ext
  · simp [madeCells]
  · intro i h1 h2
    have h4 : i % 2 = 0 ∨ i % 2 = 1 := by omega
    rcases h4 with h | h <;> simp [madeCells, h]
theorem mk_wants (W : World) (n : Nat) (h : n ≤ 1200000) : (Instr.makeSlice 80 (.int .i64 (n : Int)) (.int .i64 (n : Int))).run Try.prog W = .ok (.slice (some ⟨W.heap.size, 0, none⟩) n n) (W.alloc (.cells (spansCells (List.replicate n ((0 : Int), (0 : Int)))).toArray 83)) := by
  obtain ⟨i, hi, e⟩ := Option.map_eq_some_iff.1 Try.infoSpan
  simp only [Prod.mk.injEq] at e
  obtain ⟨e1, e2, e3⟩ := e
  have hr := run_make (P := Try.prog) W 80 83 i (.agg #[.int .i64 0, .int .i64 0]) Try.underlying80 hi e1 .i64 .i64 n n (by omega) (Int.le_refl _) (by rw [e3]; omega) (by omega)
  rw [hr, e2]
  simp only [Int.toNat_natCast]
  rw [show (Value.agg #[.int .i64 0, .int .i64 0]).cells = #[.int .i64 0, .int .i64 0] from rfl, made_two, spans_zero]
theorem own_made (W : World) (base e size n : Nat) (xs : List Value) (hx : xs.length = n * size) (hb : base ≤ W.heap.size) (hn : n ≤ 1200000) :
    (W.alloc (.cells xs.toArray e)).ownsRow base e size (.slice (some ⟨W.heap.size, 0, none⟩) n n) n xs :=
  ⟨hx, .inr ⟨W.heap.size, n, xs.toArray, rfl, hb, heap_alloc_new W _, Nat.le_refl _, by unfold maxLen; omega, by simpa using hx, by rw [← hx]; simp⟩⟩
/-- Under way: the first k are right. -/
theorem same_till {α : Type} {D L : List α} {k : Nat} {x : α} (h : ∀ (j : Nat), j < k → D[j]? = L[j]?) (hk : L[k]? = some x) (hD : k < D.length) : ∀ (j : Nat), j < k + 1 → (D.set k x)[j]? = L[j]? := fun j hj => by
  by_cases e : j = k
  · subst e
    rw [List.getElem?_set_self hD, hk]
  · rw [List.getElem?_set_ne (fun h => e h.symm)]
    exact h j (by omega)
theorem same_end {α : Type} {D L : List α} (h : ∀ (j : Nat), j < L.length → D[j]? = L[j]?) (hl : D.length = L.length) : D = L := by
  apply List.ext_getElem?
  intro j
  by_cases hj : j < L.length
  · exact h j hj
  · rw [List.getElem?_eq_none (by omega), List.getElem?_eq_none (by omega)]
theorem wantsT_length (l : List Pl) : (wantsT l).length = l.length := List.length_map _
theorem wants_snoc {l : List Pl} {k : Nat} {x : Pl} (hx : l[k]? = some x) : wantsT (l.take (k + 1)) = wantsT (l.take k) ++ [(x.u, x.s)] := by
  rw [List.take_add_one, hx]
  unfold wantsT
  rw [Option.toList_some, List.map_append]
  rfl
theorem wholes_snoc {l : List Pl} {k : Nat} {x : Pl} {c : Int} (hx : l[k]? = some x) : wholesT (l.take (k + 1)) c = wholesT (l.take k) c ++ (if wholeB c x = true then [(x.u, x.s)] else []) := by
  rw [List.take_add_one, hx]
  unfold wholesT
  rw [Option.toList_some, List.filter_append, List.map_append, List.filter_cons]
  cases wholeB c x <;> rfl
theorem wholes_le (l : List Pl) (c : Int) : (wholesT l c).length ≤ l.length := by
  unfold wholesT
  rw [List.length_map]
  exact List.length_filter_le _ _

/-! ### Cores -/
def CoresRel (m : Nat) (w : World) (g : Nat) (s i : Value) (wr : World) : Prop :=
  ∃ k : Nat, k ≤ 16 ∧ g = 16 - k ∧ i = .int .i64 k ∧ Below w.heap.size w wr ∧ wr.ownsRow w.heap.size 3 1 s (ticksI m k).length ((ticksI m k).map (Value.int .i64))

set_option maxRecDepth 100000 in
set_option maxHeartbeats 1000000 in
theorem refCores_any (f : Int) (m : Nat) (v : Value) (w : World) (hm : m < 4294967296) :
    Calls Try.prog 42 #[planA f m v] w (RetL (ticksI m 16) w) := by
  obtain ⟨i0, hi, hz0, hz1, hz2⟩ := info_parts Try.infoInt
  have HHC := Lib.hid (fun c W => refHasC_any f m v c W hm)
  unfold planA at HHC
  obtain ⟨w1, P, hw1, hP, hPl, hb1, hbox⟩ := box_any w #[.int .i64 f, .int .u32 m, v] 25
  have HB1 := Lib.hid hb1
  have HBOX := Lib.hid hbox
  obtain ⟨r0, r1, r2⟩ := three_heads hbox
  clear hb1 hbox
  unfold planA
  go_enter Try.func42, Try.ntmps42
  go_wp2_with fail
  clear hw1 hP r0 r1 r2
  have HB0 := Lib.hid (show Below w1.heap.size w1 (w1.alloc (Obj.cells #[] 3)) from (Below.refl _ _).alloc (Nat.le_refl _) _)
  have HO0 : Hid ((w1.alloc (Obj.cells #[] 3)).ownsRow w1.heap.size 3 1 (.slice (some ⟨w1.heap.size, 0, none⟩) 0 0) 0 []) :=
    ⟨rfl, .inr ⟨w1.heap.size, 0, #[], rfl, Nat.le_refl _, heap_alloc_new w1 _, Nat.le_refl _, Nat.zero_le _, rfl, rfl⟩⟩
  go_loopg [3, 4] 16 (fun g s i wr => CoresRel m w1 g s i wr)
  case atStart => exact ⟨0, Nat.zero_le _, rfl, rfl, HB0.out, HO0.out⟩
  case round =>
    obtain ⟨k, hk, hg, rfl, hbw, hown⟩ := hrel
    have HG := Lib.hid hg
    have HBW := Lib.hid hbw
    have HO := Lib.hid hown
    have hPl2 : P < wr.heap.size := Nat.lt_of_lt_of_le hPl hbw.size
    have HBX := Lib.hid ((hbw.block P hPl).trans HBOX.out)
    obtain ⟨r0, r1, r2⟩ := three_heads HBX.out
    clear hg hbw hown
    by_cases hlt : k < 16
    · have HH := Lib.hid (fun W => HHC.out (k : Int) W)
      rw [hasC_nat hlt] at HH
      have hlen : cntT m k ≤ k := cntT_le m k
      rw [ticksI_length] at HO
      generalize hn : cntT m k = n at *
      have HN := Lib.hid hn
      clear hn
      cases hb : m.testBit k
      · have HE := Lib.hid (ticksI_no hb)
        rw [hb] at HH
        clear hb
        go_wp2_with fail
        refine (HH.out _).mono ?_
        rintro e w' ⟨rfl, hb⟩
        have HB2 := Lib.hid (HBW.out.trans (hb.mono HBW.out.size))
        have HO2 := Lib.hid (own_below5 HO.out hb)
        clear hb
        go_wp2_with fail
        go_roundg (16 - (k + 1))
        case measure => have := HG.out; omega
        case rel => exact ⟨k + 1, by omega, rfl, by go_num, HB2.out, by rw [HE.out, ticksI_length, HN.out]; exact HO2.out⟩
      · have HE := Lib.hid (ticksI_yes hb)
        rw [hb] at HH
        clear hb
        go_wp2_with fail
        refine (HH.out _).mono ?_
        rintro e w3 ⟨rfl, hb⟩
        have HB2 := Lib.hid (HBW.out.trans (hb.mono HBW.out.size))
        have HO2 := Lib.hid (own_below5 HO.out hb)
        have hsz := HB2.out.size
        clear hb
        go_wp2_with (at_builtin; refine wpList_append_own _ rfl _ _ 29 rfl w1.heap.size 3 i0 (.int .i64 0) 1 8 Try.underlying29 hi hz0 hz1 hz2 rfl (by decide) _ _ _ rfl (HO2.out.alloc _) ⟨w3.heap.size, 0, none⟩ 1 1 [.int .i64 k] rfl rfl ?c1 ?c2 ?c3 ?c4 ?c5 ?_)
        case c1 =>
          intro j u hj
          rcases j with _ | j
          · simpa [Addr.add] using hj
          · simp at hj
        case c2 => intro u hu; simp at hu; subst hu; rfl
        case c3 => unfold maxLen; omega
        case c4 => omega
        case c5 => simp; omega
        intro v2 w2 hown2 hgrow _
        have HB3 := Lib.hid ((HB2.out.alloc hsz _).trans (below_grown4 hgrow (by simp; omega) (own_base4 HO2.out)))
        have HO3 := Lib.hid hown2
        clear hown2 hgrow hsz
        go_wp2
        go_roundg (16 - (k + 1))
        case measure => have := HG.out; omega
        case rel =>
          refine ⟨k + 1, by omega, rfl, by go_num, HB3.out, ?_⟩
          have e := HO3.out
          rw [HE.out, List.length_append, ticksI_length, HN.out, List.map_append]
          exact e
    · have hk16 : k = 16 := by omega
      subst hk16
      have HR := Lib.hid (ints_of_own HO.out (by rw [ticksI_length]; have := cntT_le m 16; omega))
      have HBE := Lib.hid (HB1.out.trans (HBW.out.mono HB1.out.size))
      go_wp2
      go_ret
      exact ⟨_, rfl, HR.out, HBE.out⟩

/-! ### Wants -/
end Go.Proofs.Ytincbilobmhgeaa

/-
  Wholes of program and document.
  Conditions: the slice reads as places.
-/
set_option linter.unusedVariables false
namespace Go.Proofs.Ytincbilobmhgeaa
open Go.RowKit Go.Sort

theorem wholes_no {l : List Pl} {k : Nat} {x : Pl} {c : Int} (hx : l[k]? = some x) (h : wholeB c x = false) : wholesT (l.take (k + 1)) c = wholesT (l.take k) c := by
  rw [wholes_snoc hx, h]
  simp
theorem wholes_yes {l : List Pl} {k : Nat} {x : Pl} {c : Int} (hx : l[k]? = some x) (h : wholeB c x = true) : wholesT (l.take (k + 1)) c = wholesT (l.take k) c ++ [(x.u, x.s)] := by
  rw [wholes_snoc hx, h]
  rfl
theorem whole_dec {c : Int} {x : Pl} {z e : Bool} (hz : decide (x.ps.length = 0) = z) (he : (x.c == c) = e) : wholeB c x = (z && e) := by
  unfold wholeB
  rw [hz, ← he]
  congr 1
/-- A row of wants of a call's own. -/
abbrev RowW (W : World) (base : Nat) (v : Value) (ps : List Sp) : Prop := W.ownsRow base 83 2 v ps.length (spansCells ps)
theorem RowW.snoc {W : World} {base : Nat} {v : Value} {ps : List Sp} {p : Sp} (h : W.ownsRow base 83 2 v (ps.length + 1) (spansCells ps ++ [.int .i64 p.1, .int .i64 p.2])) : RowW W base v (ps ++ [p]) := by
  show W.ownsRow base 83 2 v (ps ++ [p]).length (spansCells (ps ++ [p]))
  rw [List.length_append, spansCells_snoc]
  exact h

set_option maxRecDepth 100000 in
set_option maxHeartbeats 4000000 in
theorem refWholes_any (f : Int) (m : Nat) (v : Value) (l : List Pl) (c : Int) (w : World) (h : PlsAt w v l) (hl : l.length ≤ 1000) :
    Calls Try.prog 59 #[planA f m v, .int .i64 c] w (RetS (wholesT l c) w) := by
  obtain ⟨i0, hi, hz0, hz1, hz2⟩ := info_parts Try.infoSpan
  obtain ⟨A, cA, rfl, hlc, hcm⟩ := h.form
  have HL := Lib.hid h
  obtain ⟨w1, P, hw1, hP, hPl, hb1, hbox⟩ := box_any w #[.int .i64 f, .int .u32 m, .slice A l.length cA] 25
  obtain ⟨n, hn⟩ : ∃ n, l.length = n := ⟨_, rfl⟩
  rw [hn] at HL hlc hl hw1 hbox ⊢
  have HN := Lib.hid hn
  have HB1 := Lib.hid hb1
  have HBOX := Lib.hid hbox
  obtain ⟨r0, r1, r2⟩ := three_heads hbox
  clear h hn hb1 hbox
  unfold planA
  go_enter Try.func59, Try.ntmps59
  go_wp2_with fail
  clear hw1 hP r0 r1 r2
  have HB0 := Lib.hid (show Below w1.heap.size w1 (w1.alloc (Obj.cells #[] 83)) from (Below.refl _ _).alloc (Nat.le_refl _) _)
  have HO0 : Hid ((w1.alloc (Obj.cells #[] 83)).ownsRow w1.heap.size 83 2 (.slice (some ⟨w1.heap.size, 0, none⟩) 0 0) 0 []) :=
    ⟨rfl, .inr ⟨w1.heap.size, 0, #[], rfl, Nat.le_refl _, heap_alloc_new w1 _, Nat.le_refl _, Nat.zero_le _, rfl, rfl⟩⟩
  go_loopg [5, 6, 7] n (fun gg s5 s6 _ wr => ∃ k : Nat, k ≤ n ∧ gg = n - k ∧ s6 = .int .i64 k ∧ Below w1.heap.size w1 wr ∧ RowW wr w1.heap.size s5 (wholesT (l.take k) c))
  case atStart => exact ⟨0, Nat.zero_le _, by omega, rfl, HB0.out, HO0.out⟩
  case round =>
    obtain ⟨k, hk, hg, rfl, hbw, hown⟩ := hrel
    have HO := Lib.hid hown
    clear hown
    have HBW := Lib.hid hbw
    have HB := Lib.hid (HB1.out.trans (hbw.mono HB1.out.size))
    have HG := Lib.hid hg
    have hPl2 : P < wr.heap.size := Nat.lt_of_lt_of_le hPl hbw.size
    have HBX := Lib.hid ((hbw.block P hPl).trans HBOX.out)
    obtain ⟨r0, r1, r2⟩ := three_heads HBX.out
    have HLR := Lib.hid (HL.out.keep HB.out)
    clear hbw hg
    by_cases hlt : k < n
    · have hk0 : (0 : Int) ≤ (k : Int) := by omega
      have hltz : (k : Int) < (n : Int) := by omega
      obtain ⟨x, hx⟩ := exP_at (xs := l) (k := k) (by rw [HN.out]; exact hlt)
      obtain ⟨b, off, B, d, hA, hbl, _, ⟨c0, c1, c2, c3⟩, hps⟩ := HLR.out.at_ hx
      subst hA
      simp only at c0 c1 c2 c3
      have HX := Lib.hid hx
      have HPS := Lib.hid hps
      clear hx hps
      obtain ⟨w2, N, hw2, hN, hNl, hb2, hxbox⟩ := box_any wr #[.int .i64 x.u, .int .i64 x.s, .int .i64 x.c, .slice B x.ps.length d] 37
      have HB2 := Lib.hid hb2
      have HXB := Lib.hid hxbox
      obtain ⟨x0, x1, x2, x3⟩ := four_heads hxbox
      obtain ⟨p0, p1, p2⟩ := three_heads (keep_block HBX.out hb2)
      clear hb2 hxbox
      have HLE := Lib.hid (show (wholesT (l.take k) c).length ≤ 1000 from Nat.le_trans (wholes_le _ _) (by rw [List.length_take]; omega))
      generalize hR : wholesT (l.take k) c = R at *
      have HR := Lib.hid hR
      have HBS := Lib.hid (HBW.out.trans (HB2.out.mono HBW.out.size))
      have HO2 : Hid (RowW w2 w1.heap.size u5 R) := own_below5 HO.out HB2.out
      clear hR
      have hdec := fun z e => @whole_dec c x z e
      generalize hzz : x.ps.length = z at *
      cases hz : decide (z = 0) with
      | false =>
        have HE := Lib.hid (wholes_no HX.out (show wholeB c x = false from (whole_dec (show decide (x.ps.length = 0) = false by rw [hzz]; exact hz) rfl).trans rfl))
        rw [HR.out] at HE
        have hz1' : ((z : Int) == 0) = false := by have := of_decide_eq_false hz; simpa using this
        clear hz hdec hzz
        go_wp2_with fail
        go_roundg (n - (k + 1))
        case measure => have := HG.out; omega
        case rel => exact ⟨k + 1, by omega, rfl, by go_num, HBS.out, by rw [HE.out]; exact HO2.out⟩
      | true =>
        have hz1' : ((z : Int) == 0) = true := by have := of_decide_eq_true hz; subst this; rfl
        cases he : (x.c == c) with
        | false =>
          have HE := Lib.hid (wholes_no HX.out (show wholeB c x = false from (whole_dec (show decide (x.ps.length = 0) = true by rw [hzz]; exact hz) he).trans rfl))
          rw [HR.out] at HE
          clear hz hdec hzz
          go_wp2_with fail
          go_roundg (n - (k + 1))
          case measure => have := HG.out; omega
          case rel => exact ⟨k + 1, by omega, rfl, by go_num, HBS.out, by rw [HE.out]; exact HO2.out⟩
        | true =>
          have HE := Lib.hid (wholes_yes HX.out (show wholeB c x = true from (whole_dec (show decide (x.ps.length = 0) = true by rw [hzz]; exact hz) he).trans rfl))
          rw [HR.out] at HE
          have hsz := HBS.out.size
          have hle := HLE.out
          clear hz hdec hzz
          go_wp2_with (at_builtin; refine wpList_append_own _ rfl _ _ 80 rfl w1.heap.size 83 i0 (.agg #[.int .i64 0, .int .i64 0]) 2 16 Try.underlying80 hi hz0 hz1 hz2 rfl (by decide) _ _ _ rfl (HO2.out.alloc _) ⟨w2.heap.size, 0, none⟩ 1 1 [.int .i64 x.u, .int .i64 x.s] rfl rfl ?c1 ?c2 ?c3 ?c4 ?c5 ?_)
          case c1 => exact news_two _ _ rfl _ _ _
          case c2 => intro u hu; simp at hu; rcases hu with rfl | rfl <;> rfl
          case c3 => unfold maxLen; omega
          case c4 => omega
          case c5 => simp; omega
          intro v5 w5 hown5 hgrow _
          have HB5 := Lib.hid ((HBS.out.alloc hsz _).trans (below_grown5 hgrow (by simp; omega) (own_base5 HO2.out)))
          have HO5 : Hid (RowW w5 w1.heap.size v5 (R ++ [(x.u, x.s)])) := RowW.snoc hown5
          clear hown5 hgrow hsz
          go_wp2_with fail
          go_roundg (n - (k + 1))
          case measure => have := HG.out; omega
          case rel => exact ⟨k + 1, by omega, rfl, by go_num, HB5.out, by rw [HE.out]; exact HO5.out⟩
    · have hltz : ¬ (k : Int) < (n : Int) := by omega
      have HE := Lib.hid (show l.take k = l from List.take_of_length_le (by rw [HN.out]; omega))
      have HF := Lib.hid (show SpansAt wr u5 (wholesT l c) by
        have h := HO.out
        rw [HE.out] at h
        exact spans_of_own (base := w1.heap.size) (e := 83) h (Nat.le_trans (wholes_le _ _) (by rw [HN.out]; omega)))
      go_wp2
      go_ret
      exact ⟨_, rfl, HF.out, HB.out⟩
end Go.Proofs.Ytincbilobmhgeaa

/-
  At, Windows, Load, Room and Free of the document.
  Conditions: the slices read as pieces, as places; the numbers are of their kinds.
-/
set_option linter.unusedVariables false
namespace Go.Proofs.Ytincbilobmhgeaa
open Go.RowKit Go.Sort

/-- What At tells. -/
def hitB (c : Int) (t : Nat) (y : Pc) : Bool := (decide (c < 0) || decide (y.c = c)) && y.t.testBit t
def nAt (q : List Pc) (c : Int) (t : Nat) : Nat := q.countP (hitB c t)
theorem nAt_on {q : List Pc} {c : Int} {t : Nat} (h : 0 ≤ c) : nAt q c t = nOn q c t := by
  unfold nAt nOn
  congr 1
  funext y
  unfold hitB onB
  rw [decide_eq_false (by omega), Bool.false_or]
theorem nAt_any {q : List Pc} {c : Int} {t : Nat} (h : c < 0) : nAt q c t = nAny q t := by
  unfold nAt nAny
  congr 1
  funext y
  unfold hitB
  rw [decide_eq_true h, Bool.true_or, Bool.true_and]
theorem nAt_snoc {q : List Pc} {k : Nat} {y : Pc} {c : Int} {t : Nat} (hy : q[k]? = some y) : nAt (q.take (k + 1)) c t = nAt (q.take k) c t + (hitB c t y).toNat := by
  rw [List.take_add_one, hy]
  unfold nAt
  rw [Option.toList_some, List.countP_append, List.countP_singleton]
  cases hitB c t y <;> rfl
theorem nAt_le (q : List Pc) (c : Int) (t : Nat) : nAt q c t ≤ q.length := List.countP_le_length

set_option maxRecDepth 100000 in
set_option maxHeartbeats 2000000 in
theorem at_any (v : Value) (x : Pl) (c : Int) (t : Nat) (w : World) (h : PcsAt w v x.ps) (hl : x.ps.length ≤ 1000) (ho : ∀ y ∈ x.ps, PcOk y) (ht : t < 64) :
    Calls Try.prog 36 #[plA v x, .int .i64 c, .int .i64 t] w (RetB (.int .i64 (nAt x.ps c t : Nat)) w) := by
  obtain ⟨A, d, rfl⟩ := h.form
  have HL := Lib.hid h
  have HO := Lib.hid ho
  obtain ⟨u, s, c0, ps⟩ := x
  simp only at *
  obtain ⟨w1, P, hw1, hP, hPl, hb1, hbox⟩ := box_any w #[.int .i64 u, .int .i64 s, .int .i64 c0, .slice A ps.length d] 37
  obtain ⟨n, hn⟩ : ∃ n, ps.length = n := ⟨_, rfl⟩
  rw [hn] at HL hl hw1 hbox ⊢
  have HN := Lib.hid hn
  have HB1 := Lib.hid hb1
  have HBOX := Lib.hid hbox
  obtain ⟨r0, r1, r2, r3⟩ := four_heads hbox
  clear h hn hb1 hbox ho
  unfold plA
  go_enter Try.func36, Try.ntmps36
  go_wp2_with fail
  clear hw1 hP r0 r1 r2 r3
  go_loopg [7, 8] n (fun gg s7 s8 wr => ∃ k : Nat, k ≤ n ∧ gg = n - k ∧ s8 = .int .i64 k ∧ s7 = .int .i64 (nAt (ps.take k) c t : Nat) ∧ w1 = wr)
  case atStart => exact ⟨0, Nat.zero_le _, by omega, rfl, rfl, rfl⟩
  case round =>
    obtain ⟨k, hk, hg, rfl, rfl, rfl⟩ := hrel
    have HG := Lib.hid hg
    obtain ⟨r0, r1, r2, r3⟩ := four_heads HBOX.out
    clear hg
    by_cases hlt : k < n
    · have hltz : (k : Int) < (n : Int) := by omega
      have hk0 : (0 : Int) ≤ (k : Int) := by omega
      obtain ⟨y, hy⟩ := exP_at (xs := ps) (k := k) (by rw [HN.out]; exact hlt)
      obtain ⟨b, off, hA, hbl, _, y0, y1⟩ := (HL.out.keep HB1.out).at_ hy
      subst hA
      have HY := Lib.hid (nAt_snoc (c := c) (t := t) hy)
      have hyok := (HO.out y (List.mem_of_getElem? hy)).2
      have HH := Lib.hid (fun W => refHas_any y.t (t : Int) W hyok)
      rw [hasB_nat ht] at HH
      have hq : nAt (ps.take k) c t ≤ k := Nat.le_trans (nAt_le _ _ _) (by rw [List.length_take]; omega)
      generalize nAt (ps.take k) c t = q at *
      obtain ⟨yc, yt⟩ := y
      simp only at y0 y1 HH
      unfold hitB at HY
      simp only at HY
      clear hy hyok
      by_cases hc : c < 0
      · rw [decide_eq_true hc, Bool.true_or, Bool.true_and] at HY
        cases hb : yt.testBit t with
        | true =>
          rw [hb] at HH HY
          clear hb
          go_wp2_with (go_at_call 52; refine (HH.out _).mono ?_; rintro e w' ⟨rfl, rfl⟩)
          go_roundg (n - (k + 1))
          case measure => have := HG.out; omega
          case rel => exact ⟨k + 1, by omega, rfl, by go_num, by rw [HY.out]; go_num, rfl⟩
        | false =>
          rw [hb] at HH HY
          clear hb
          go_wp2_with (go_at_call 52; refine (HH.out _).mono ?_; rintro e w' ⟨rfl, rfl⟩)
          go_roundg (n - (k + 1))
          case measure => have := HG.out; omega
          case rel => exact ⟨k + 1, by omega, rfl, by go_num, by rw [HY.out]; rfl, rfl⟩
      · rw [decide_eq_false hc, Bool.false_or] at HY
        have hc' : decide (c < 0) = false := decide_eq_false hc
        cases he : (yc == c) with
        | false =>
          rw [show decide (yc = c) = false from he, Bool.false_and] at HY
          go_wp2_with fail
          go_roundg (n - (k + 1))
          case measure => have := HG.out; omega
          case rel => exact ⟨k + 1, by omega, rfl, by go_num, by rw [HY.out]; rfl, rfl⟩
        | true =>
          rw [show decide (yc = c) = true from he, Bool.true_and] at HY
          cases hb : yt.testBit t with
          | true =>
            rw [hb] at HH HY
            clear hb
            go_wp2_with (go_at_call 52; refine (HH.out _).mono ?_; rintro e w' ⟨rfl, rfl⟩)
            go_roundg (n - (k + 1))
            case measure => have := HG.out; omega
            case rel => exact ⟨k + 1, by omega, rfl, by go_num, by rw [HY.out]; go_num, rfl⟩
          | false =>
            rw [hb] at HH HY
            clear hb
            go_wp2_with (go_at_call 52; refine (HH.out _).mono ?_; rintro e w' ⟨rfl, rfl⟩)
            go_roundg (n - (k + 1))
            case measure => have := HG.out; omega
            case rel => exact ⟨k + 1, by omega, rfl, by go_num, by rw [HY.out]; rfl, rfl⟩
    · have hltz : ¬ (k : Int) < (n : Int) := by omega
      have HE := Lib.hid (show nAt (ps.take k) c t = nAt ps c t by rw [List.take_of_length_le (by rw [HN.out]; omega)])
      generalize nAt (ps.take k) c t = q at *
      go_wp2
      go_ret
      exact ⟨ret_natU HE.out, HB1.out⟩

/-! ### Windows -/
theorem pcs_take {l : List Pl} {k : Nat} {x : Pl} (hx : l[k]? = some x) : pcsOf (l.take (k + 1)) = pcsOf (l.take k) ++ x.ps := by
  rw [List.take_add_one, hx, Option.toList_some, pcsOf_snoc]
/-- A tick's set, some places looked at. -/
def innerM (M T : Nat) (q : List Pc) (c : Int) : Nat := if 0 < nOn q c T then withN M T else M
theorem inner_lt {M T : Nat} {q : List Pc} {c : Int} (hM : M < 18446744073709551616) (hT : T < 64) : innerM M T q c < 18446744073709551616 := by
  unfold innerM
  split
  · exact withN_lt hM hT
  · exact hM
theorem inner_hit {M T : Nat} {q r : List Pc} {c : Int} (h : 0 < nOn r c T) : withN (innerM M T q c) T = innerM M T (q ++ r) c := by
  unfold innerM
  rw [nOn_append, if_pos (show 0 < nOn q c T + nOn r c T by omega)]
  split
  · exact withN_of (by rw [withN_bit, decide_eq_true rfl, Bool.or_true])
  · rfl
theorem inner_miss {M T : Nat} {q r : List Pc} {c : Int} (h : ¬ 0 < nOn r c T) : innerM M T q c = innerM M T (q ++ r) c := by
  unfold innerM
  rw [nOn_append, show nOn q c T + nOn r c T = nOn q c T by omega]
def winT (q : List Pc) (c : Int) (T : Nat) : Nat := setT (fun t => decide (0 < nOn q c t)) T
theorem winT_lt (q : List Pc) (c : Int) {T : Nat} (h : T ≤ 64) : winT q c T < 18446744073709551616 := by
  rw [← two64]
  apply Nat.lt_pow_two_of_testBit
  intro i hi
  unfold winT
  rw [setT_bit, decide_eq_false (show ¬ i < T by omega), Bool.false_and]
theorem winT_succ (q : List Pc) (c : Int) (T : Nat) : innerM (winT q c T) T q c = winT q c (T + 1) := by
  unfold innerM winT
  rw [setT]
  by_cases h : 0 < nOn q c T
  · rw [if_pos h, decide_eq_true h, if_pos rfl]
  · rw [if_neg h, decide_eq_false h, if_neg (by simp)]

set_option maxRecDepth 100000 in
set_option maxHeartbeats 4000000 in
theorem refWindows_any (f : Int) (m : Nat) (v : Value) (l : List Pl) (c : Int) (w : World) (h : PlsAt w v l) (hl : l.length ≤ 1000) (ho : ∀ x ∈ l, PlOk x ∧ x.ps.length ≤ 1000) (hc : 0 ≤ c) :
    Calls Try.prog 58 #[planA f m v, .int .i64 c] w (RetB (.int .u64 (winN (pcsOf l) c)) w) := by
  have HO := Lib.hid ho
  have HC0 := Lib.hid hc
  clear ho hc
  obtain ⟨A, cA, rfl, hlc, hcm⟩ := h.form
  have HL := Lib.hid h
  obtain ⟨w1, P, hw1, hP, hPl, hb1, hbox⟩ := box_any w #[.int .i64 f, .int .u32 m, .slice A l.length cA] 25
  obtain ⟨n, hn⟩ : ∃ n, l.length = n := ⟨_, rfl⟩
  rw [hn] at HL hlc hl hw1 hbox ⊢
  have HN := Lib.hid hn
  have HB1 := Lib.hid hb1
  have HBOX := Lib.hid hbox
  obtain ⟨r0, r1, r2⟩ := three_heads hbox
  clear h hn hb1 hbox
  unfold planA
  go_enter Try.func58, Try.ntmps58
  go_wp2_with fail
  clear hw1 hP r0 r1 r2
  go_loopg [5, 6, 7] 64 (fun gg s5 s6 _ wr => ∃ T : Nat, T ≤ 64 ∧ gg = 64 - T ∧ s6 = .int .i64 T ∧ s5 = .int .u64 (winT (pcsOf l) c T : Nat) ∧ Below w1.heap.size w1 wr)
  case atStart => exact ⟨0, Nat.zero_le _, by omega, rfl, rfl, Below.refl _ _⟩
  case round =>
    obtain ⟨T, hT, hgT, rfl, rfl, hbT⟩ := hrel
    have HGT := Lib.hid hgT
    have HBT := Lib.hid hbT
    obtain ⟨wo, rfl⟩ : ∃ wo : World, wo = wr := ⟨_, rfl⟩
    have HM := Lib.hid (winT_lt (pcsOf l) c hT)
    have HE := Lib.hid (winT_succ (pcsOf l) c T)
    clear hgT hbT
    by_cases hlT : T < 64
    · have hlTz : (T : Int) < 64 := by omega
      generalize winT (pcsOf l) c T = M at *
      go_wp2_with fail
      go_loopg [5, 7] n (fun gg s5 s7 wr => ∃ k : Nat, k ≤ n ∧ gg = n - k ∧ s7 = .int .i64 k ∧ s5 = .int .u64 (innerM M T (pcsOf (l.take k)) c : Nat) ∧ Below w1.heap.size w1 wr)
      case atStart => exact ⟨0, Nat.zero_le _, by omega, rfl, rfl, HBT.out⟩
      case round =>
        obtain ⟨k, hk, hg, rfl, rfl, hbw⟩ := hrel
        have HBW := Lib.hid hbw
        have HB := Lib.hid (HB1.out.trans (hbw.mono HB1.out.size))
        have HG := Lib.hid hg
        have hPl2 : P < wr.heap.size := Nat.lt_of_lt_of_le hPl hbw.size
        have HBX := Lib.hid ((hbw.block P hPl).trans HBOX.out)
        obtain ⟨r0, r1, r2⟩ := three_heads HBX.out
        have HLR := Lib.hid (HL.out.keep HB.out)
        clear hbw hg
        by_cases hlt : k < n
        · have hk0 : (0 : Int) ≤ (k : Int) := by omega
          have hltz : (k : Int) < (n : Int) := by omega
          obtain ⟨x, hx⟩ := exP_at (xs := l) (k := k) (by rw [HN.out]; exact hlt)
          obtain ⟨b, off, B, d, hA, hbl, _, ⟨c0, c1, c2, c3⟩, hps⟩ := HLR.out.at_ hx
          subst hA
          simp only at c0 c1 c2 c3
          have HX := Lib.hid hx
          have HPS := Lib.hid hps
          clear hx hps
          have hxo := HO.out x (List.mem_of_getElem? HX.out)
          have HAT := Lib.hid (at_any (.slice B x.ps.length d) x c T wr HPS.out.any hxo.2 hxo.1.2.2.2 hlT)
          rw [nAt_on HC0.out] at HAT
          unfold plA at HAT
          have HQ := Lib.hid (inner_lt (q := pcsOf (l.take k)) (c := c) HM.out hlT)
          have HW := Lib.hid (fun q W hq => with_any q (T : Int) W hq)
          have HPT := Lib.hid (pcs_take HX.out)
          have HIH := Lib.hid (@inner_hit M T (pcsOf (l.take k)) x.ps c)
          have HIM := Lib.hid (@inner_miss M T (pcsOf (l.take k)) x.ps c)
          rw [← HPT.out] at HIH HIM
          generalize innerM M T (pcsOf (l.take k)) c = q at *
          generalize hq2 : innerM M T (pcsOf (l.take (k + 1))) c = q2 at *
          have HQ2 := Lib.hid hq2
          clear hq2
          generalize hz : nOn x.ps c T = z at *
          clear hz hxo
          go_wp2_with fail
          refine HAT.out.mono ?_
          rintro e w3 ⟨rfl, hb3⟩
          have HB3 := Lib.hid (HBW.out.trans (hb3.mono HBW.out.size))
          clear hb3
          by_cases hz0 : 0 < z
          · have hz1 : (0 : Int) < (z : Int) := by omega
            have HWC := Lib.hid (fun W => HW.out q W HQ.out)
            rw [withI_nat hlT, HIH.out hz0] at HWC
            go_wp2_with fail
            refine (HWC.out _).mono ?_
            rintro e w4 ⟨rfl, rfl⟩
            go_wp2_with fail
            go_roundg (n - (k + 1))
            case measure => have := HG.out; omega
            case rel => exact ⟨k + 1, by omega, rfl, by go_num, by rw [HQ2.out], HB3.out⟩
          · have hz1 : decide ((0 : Int) < (z : Int)) = false := decide_eq_false (by omega)
            have hz2 : z = 0 := by omega
            subst hz2
            have HQQ := Lib.hid (HIM.out hz0)
            clear hz0 hz1
            go_wp2_with fail
            go_roundg (n - (k + 1))
            case measure => have := HG.out; omega
            case rel => exact ⟨k + 1, by omega, rfl, by go_num, by rw [HQ2.out, HQQ.out], HB3.out⟩
        · have hltz : ¬ (k : Int) < (n : Int) := by omega
          have HT := Lib.hid (show innerM M T (pcsOf (l.take k)) c = innerM M T (pcsOf l) c by rw [List.take_of_length_le (by rw [HN.out]; omega)])
          rw [HE.out] at HT
          generalize innerM M T (pcsOf (l.take k)) c = q at *
          go_wp2_with fail
          go_roundg (64 - (T + 1))
          case measure => have := HGT.out; omega
          case rel => exact ⟨T + 1, by omega, rfl, by go_num, by rw [HT.out], HBW.out⟩
    · have hT64 : T = 64 := by omega
      subst hT64
      have HEN := Lib.hid (show winT (pcsOf l) c 64 = winN (pcsOf l) c from rfl)
      have HBE := Lib.hid (HB1.out.trans (HBT.out.mono HB1.out.size))
      generalize winT (pcsOf l) c 64 = M at *
      go_wp2
      go_ret
      exact ⟨ret_natU HEN.out, HBE.out⟩

/-! ### Load, Room, Free -/
theorem sumS_bound : ∀ (ps : List Sp), (∀ p ∈ ps, 0 ≤ p.2 ∧ p.2 ≤ 64) → 0 ≤ sumS ps ∧ sumS ps ≤ 64 * (ps.length : Int)
  | [], _ => by simp [sumS]
  | p :: r, h => by
    have h1 := h p (by simp)
    have h2 := sumS_bound r fun q hq => h q (by simp [hq])
    rw [sumS, List.length_cons]
    omega
theorem sumS_snoc {ps : List Sp} {k : Nat} {p : Sp} (hp : ps[k]? = some p) : sumS (ps.take (k + 1)) = sumS (ps.take k) + p.2 := by
  rw [List.take_add_one, hp, Option.toList_some, sumS_append]
  simp [sumS]
/-- What all numbers of a light plan are. -/
structure LightL (l : List Pl) : Prop where
  len : l.length ≤ 300
  ok : ∀ x ∈ l, PlOk x ∧ x.ps.length ≤ 1000
theorem LightL.take {l : List Pl} (h : LightL l) (k : Nat) : LightL (l.take k) := ⟨by have := h.len; rw [List.length_take]; omega, fun x hx => h.ok x (List.mem_of_mem_take hx)⟩
/-- Shares of a frame. -/
def Shares (l : List Pl) : Prop := ∀ x ∈ l, 0 ≤ x.s ∧ x.s ≤ 64
theorem shares_wholes {l : List Pl} (h : Shares l) (c : Int) : ∀ p ∈ wholesT l c, 0 ≤ p.2 ∧ p.2 ≤ 64 := by
  intro p hp
  obtain ⟨x, hx, rfl⟩ := List.mem_map.1 hp
  exact h x (List.mem_filter.1 hx).1

set_option maxRecDepth 100000 in
set_option maxHeartbeats 2000000 in
theorem refLoad_any (f : Int) (m : Nat) (v : Value) (l : List Pl) (c : Int) (w : World) (h : PlsAt w v l) (hL : LightL l) (hS : Shares l) (hc : 0 ≤ c) :
    Calls Try.prog 43 #[planA f m v, .int .i64 c] w (RetB (.int .i64 (loadN l c)) w) := by
  have hlen := hL.len
  have HWI := Lib.hid (fun w h => refWindows_any f m v l c w h (by omega) hL.ok hc)
  have HWH := Lib.hid (fun w h => refWholes_any f m v l c w h (by omega))
  unfold planA at HWI HWH
  have HCN := Lib.hid (fun W => refCount_any (winN (pcsOf l) c) W (winN_lt _ _))
  have HSH := Lib.hid (shares_wholes hS c)
  have HWL := Lib.hid (show (wholesT l c).length ≤ 300 from Nat.le_trans (wholes_le _ _) hlen)
  have HC64 := Lib.hid (cnt_le (winN (pcsOf l) c))
  have HLD := Lib.hid (show loadN l c = (cnt (winN (pcsOf l) c) : Int) + sumS (wholesT l c) from rfl)
  have HH := Lib.hid h
  obtain ⟨w1, P, hw1, hP, hPl, hb1, hbox⟩ := box_any w #[.int .i64 f, .int .u32 m, v] 25
  have HB1 := Lib.hid hb1
  have HBOX := Lib.hid hbox
  obtain ⟨r0, r1, r2⟩ := three_heads hbox
  generalize wholesT l c = ws at *
  generalize winN (pcsOf l) c = win at *
  generalize loadN l c = ld at *
  clear h hL hS hb1 hbox
  unfold planA
  go_enter Try.func43, Try.ntmps43
  go_wp2_with fail
  refine (HWI.out _ (HH.out.keep HB1.out)).mono ?_
  rintro e w2 ⟨rfl, hb2⟩
  have HB2 := Lib.hid hb2
  clear hb2
  go_wp2_with fail
  refine (HCN.out _).mono ?_
  rintro e w3 ⟨rfl, hb3⟩
  have HB3 := Lib.hid (HB2.out.trans (hb3.mono HB2.out.size))
  obtain ⟨q0, q1, q2⟩ := three_heads (keep_block HBOX.out HB3.out)
  have HB3' := Lib.hid (HB1.out.trans (HB3.out.mono HB1.out.size))
  generalize hk0 : cnt win = K0 at *
  have HK0 := Lib.hid hk0
  clear hb3 hk0
  go_wp2_with fail
  refine (HWH.out _ (HH.out.keep HB3'.out)).mono ?_
  rintro e w4 ⟨v4, rfl, hs4, hb4⟩
  have HB4 := Lib.hid (HB3'.out.trans (hb4.mono HB3'.out.size))
  obtain ⟨A4, c4, rfl, _, _, _, hat⟩ := hs4
  have HAT := Lib.hid hat
  obtain ⟨n, hn⟩ : ∃ n, ws.length = n := ⟨_, rfl⟩
  rw [hn] at HAT HWL ⊢
  have HN := Lib.hid hn
  have hwl := HWL.out
  clear hb4 hat hn hw1 hP r0 r1 r2 q0 q1 q2
  go_wp2_with fail
  go_loopg [5, 7] n (fun gg s5 s7 wr => ∃ (k : Nat) (t : Int), k ≤ n ∧ gg = n - k ∧ s7 = .int .i64 k ∧ s5 = .int .i64 t ∧ t = (K0 : Int) + sumS (ws.take k) ∧ w4 = wr)
  case atStart => exact ⟨0, (K0 : Int), Nat.zero_le _, by omega, rfl, rfl, by simp [sumS], rfl⟩
  case round =>
    obtain ⟨k, t, hk, hg, rfl, rfl, ht, rfl⟩ := hrel
    have HG := Lib.hid hg
    have HT := Lib.hid ht
    clear hg
    by_cases hlt : k < n
    · have hltz : (k : Int) < (n : Int) := by omega
      have hk0 : (0 : Int) ≤ (k : Int) := by omega
      obtain ⟨p, hp⟩ := exP_at (xs := ws) (k := k) (by rw [HN.out]; exact hlt)
      obtain ⟨b, off, hA, hbl, hcell⟩ := HAT.out (by omega)
      subst hA
      obtain ⟨p0, p1⟩ := hcell k p hp
      have HSN := Lib.hid (sumS_snoc hp)
      have hpb := HSH.out p (List.mem_of_getElem? hp)
      have htb := sumS_bound (ws.take k) fun q hq => HSH.out q (List.mem_of_mem_take hq)
      have htl : (ws.take k).length ≤ 300 := by rw [List.length_take]; omega
      have hk64 := HC64.out
      have hk64' : K0 ≤ 64 := hk64
      have t1 : 0 ≤ t := by rw [ht]; omega
      have t2 : t ≤ 20000 := by rw [ht]; omega
      obtain ⟨pu, psh⟩ := p
      simp only at p0 p1 hpb HSN
      obtain ⟨hpb1, hpb2⟩ := hpb
      clear hp hcell ht htb htl hk64 hk64'
      go_wp2_with fail
      go_roundg (n - (k + 1))
      case measure => have := HG.out; omega
      case rel => exact ⟨k + 1, t + psh, by omega, rfl, by go_num, rfl, by rw [HSN.out, HT.out]; omega, rfl⟩
    · have hltz : ¬ (k : Int) < (n : Int) := by omega
      have HE : Hid (t = ld) := by
        show t = ld
        rw [HLD.out, HT.out, List.take_of_length_le (by rw [HN.out]; omega)]
      clear ht
      go_wp2
      go_ret
      exact ⟨ret_int HE.out, HB4.out⟩

theorem load_bound {l : List Pl} (hL : LightL l) (hS : Shares l) (c : Int) : 0 ≤ loadN l c ∧ loadN l c ≤ 20000 := by
  have h1 := sumS_bound (wholesT l c) (shares_wholes hS c)
  have h2 := wholes_le l c
  have h3 := cnt_le (winN (pcsOf l) c)
  have h4 := hL.len
  unfold loadN
  omega
/-- What Room tells. -/
def roomN (f : Int) (m : Nat) (l : List Pl) (c : Int) : Int := if hasC m c = true then f - loadN l c else 0
/-- The first k rooms. -/
def freeT (f : Int) (m : Nat) (l : List Pl) : Nat → Int
  | 0 => 0
  | k + 1 => freeT f m l k + roomN f m l (k : Int)
theorem room_bound (f : Int) (m : Nat) (l : List Pl) (hL : LightL l) (hS : Shares l) (hf : 0 ≤ f) (hf2 : f ≤ 64) (c : Int) : -20000 ≤ roomN f m l c ∧ roomN f m l c ≤ 64 := by
  have h := load_bound hL hS c
  unfold roomN
  split <;> omega
theorem free_bound (f : Int) (m : Nat) (l : List Pl) (hL : LightL l) (hS : Shares l) (hf : 0 ≤ f) (hf2 : f ≤ 64) : ∀ k : Nat, -20000 * (k : Int) ≤ freeT f m l k ∧ freeT f m l k ≤ 64 * (k : Int)
  | 0 => by simp [freeT]
  | k + 1 => by
    have h1 := free_bound f m l hL hS hf hf2 k
    have h2 := room_bound f m l hL hS hf hf2 (k : Int)
    rw [freeT]
    omega
end Go.Proofs.Ytincbilobmhgeaa
