/-
  Cores, Wants and Wholes of program and document.
  Conditions: the slice reads as places.
-/
import Derived.Test.YtpjmdnhoiobedaaTells
import Derived.Laws.MakeOwn
set_option linter.unusedVariables false
namespace Go.Proofs.Ytpjmdnhoiobedaa
open Go.RowKit Go.Sort

theorem spans_zero : ∀ n : Nat, spansCells (List.replicate n ((0 : Int), (0 : Int))) = List.replicate (n * 2) (.int .i64 0)
  | 0 => rfl
  | n + 1 => by rw [List.replicate_succ, spansCells_cons, spans_zero n, show (n + 1) * 2 = n * 2 + 1 + 1 by omega, List.replicate_succ, List.replicate_succ]
theorem made_two (m : Nat) : madeCells #[.int .i64 0, .int .i64 0] m = (List.replicate m (Value.int .i64 0)).toArray := by
  apply Array.ext
  · simp [madeCells]
  · intro i h1 h2
    have h4 : i % 2 = 0 ∨ i % 2 = 1 := by omega
    rcases h4 with h | h <;> simp [madeCells, h]
theorem mk_wants (W : World) (n : Nat) (h : n ≤ 1200000) : (Instr.makeSlice 36 (.int .i64 (n : Int)) (.int .i64 (n : Int))).run Try.prog W = .ok (.slice (some ⟨W.heap.size, 0, none⟩) n n) (W.alloc (.cells (spansCells (List.replicate n ((0 : Int), (0 : Int)))).toArray 58)) := by
  obtain ⟨i, hi, e⟩ := Option.map_eq_some_iff.1 Try.infoSpan
  simp only [Prod.mk.injEq] at e
  obtain ⟨e1, e2, e3⟩ := e
  have hr := run_make (P := Try.prog) W 36 58 i (.agg #[.int .i64 0, .int .i64 0]) Try.underlying36 hi e1 .i64 .i64 n n (by omega) (Int.le_refl _) (by rw [e3]; omega) (by omega)
  rw [hr, e2]
  simp only [Int.toNat_natCast]
  rw [show (Value.agg #[.int .i64 0, .int .i64 0]).cells = #[.int .i64 0, .int .i64 0] from rfl, made_two, spans_zero]
theorem own_made (W : World) (base e size n : Nat) (xs : List Value) (hx : xs.length = n * size) (hb : base ≤ W.heap.size) (hn : n ≤ 1200000) :
    (W.alloc (.cells xs.toArray e)).ownsRow base e size (.slice (some ⟨W.heap.size, 0, none⟩) n n) n xs :=
  ⟨hx, .inr ⟨W.heap.size, n, xs.toArray, rfl, hb, heap_alloc_new W _, Nat.le_refl _, by unfold maxLen; omega, by simpa using hx, by rw [← hx]; simp⟩⟩
/-- Under way: the first k are right. -/
theorem same_till {α : Type} {D L : List α} {k : Nat} {x : α} (h : ∀ (j : Nat), j < k → D[j]? = L[j]?) (hk : L[k]? = some x) (hD : k < D.length) : ∀ (j : Nat), j < k + 1 → (D.set k x)[j]? = L[j]? := fun j hj => by
  by_cases e : j = k
  · subst e
    rw [List.getElem?_set_self hD, hk]
  · rw [List.getElem?_set_ne (fun h => e h.symm)]
    exact h j (by omega)
theorem same_end {α : Type} {D L : List α} (h : ∀ (j : Nat), j < L.length → D[j]? = L[j]?) (hl : D.length = L.length) : D = L := by
  apply List.ext_getElem?
  intro j
  by_cases hj : j < L.length
  · exact h j hj
  · rw [List.getElem?_eq_none (by omega), List.getElem?_eq_none (by omega)]
theorem wantsT_length (l : List Pl) : (wantsT l).length = l.length := List.length_map _
theorem wants_snoc {l : List Pl} {k : Nat} {x : Pl} (hx : l[k]? = some x) : wantsT (l.take (k + 1)) = wantsT (l.take k) ++ [(x.u, x.s)] := by
  rw [List.take_add_one, hx]
  unfold wantsT
  rw [Option.toList_some, List.map_append]
  rfl
theorem wholes_snoc {l : List Pl} {k : Nat} {x : Pl} {c : Int} (hx : l[k]? = some x) : wholesT (l.take (k + 1)) c = wholesT (l.take k) c ++ (if wholeB c x = true then [(x.u, x.s)] else []) := by
  rw [List.take_add_one, hx]
  unfold wholesT
  rw [Option.toList_some, List.filter_append, List.map_append, List.filter_cons]
  cases wholeB c x <;> rfl
theorem wholes_le (l : List Pl) (c : Int) : (wholesT l c).length ≤ l.length := by
  unfold wholesT
  rw [List.length_map]
  exact List.length_filter_le _ _

/-! ### Cores -/
set_option maxRecDepth 100000 in
set_option maxHeartbeats 1000000 in
theorem cores_any (f : Int) (m : Nat) (v : Value) (w : World) (hm : m < 4294967296) :
    Calls Try.prog 22 #[planA f m v] w (RetL (ticksI m 64) w) := by
  have hconv := conv32 m hm
  obtain ⟨w1, P, hw1, hP, hPl, hb1, hbox⟩ := box_any w #[.int .i64 f, .int .u32 m, v] 25
  have HB1 := Lib.hid hb1
  obtain ⟨r0, r1, r2⟩ := three_heads hbox
  have HT := Lib.hid (fun W => ticks_any m W (by omega) (fun W => count_any m W (by omega)))
  clear hb1 hbox
  unfold planA
  go_enter Try.func22, Try.ntmps22
  go_wp2_with fail
  refine (HT.out _).mono ?_
  rintro e w2 ⟨v2, rfl, hi, hb2⟩
  have HI := Lib.hid hi
  have HB2 := Lib.hid (HB1.out.trans (hb2.mono HB1.out.size))
  clear hi hb2
  go_wp2_with fail
  go_ret
  exact ⟨_, rfl, HI.out, HB2.out⟩

def CoresRel (m : Nat) (w : World) (g : Nat) (s i : Value) (wr : World) : Prop :=
  ∃ k : Nat, k ≤ 16 ∧ g = 16 - k ∧ i = .int .i64 k ∧ Below w.heap.size w wr ∧ wr.ownsRow w.heap.size 3 1 s (ticksI m k).length ((ticksI m k).map (Value.int .i64))

set_option maxRecDepth 100000 in
set_option maxHeartbeats 1000000 in
theorem refCores_any (f : Int) (m : Nat) (v : Value) (w : World) (hm : m < 4294967296) :
    Calls Try.prog 28 #[planA f m v] w (RetL (ticksI m 16) w) := by
  obtain ⟨i0, hi, hz0, hz1, hz2⟩ := info_parts Try.infoInt
  have HHC := Lib.hid (fun c W => refHasC_any f m v c W hm)
  unfold planA at HHC
  obtain ⟨w1, P, hw1, hP, hPl, hb1, hbox⟩ := box_any w #[.int .i64 f, .int .u32 m, v] 25
  have HB1 := Lib.hid hb1
  have HBOX := Lib.hid hbox
  obtain ⟨r0, r1, r2⟩ := three_heads hbox
  clear hb1 hbox
  unfold planA
  go_enter Try.func28, Try.ntmps28
  go_wp2_with fail
  clear hw1 hP r0 r1 r2
  have HB0 := Lib.hid (show Below w1.heap.size w1 (w1.alloc (Obj.cells #[] 3)) from (Below.refl _ _).alloc (Nat.le_refl _) _)
  have HO0 : Hid ((w1.alloc (Obj.cells #[] 3)).ownsRow w1.heap.size 3 1 (.slice (some ⟨w1.heap.size, 0, none⟩) 0 0) 0 []) :=
    ⟨rfl, .inr ⟨w1.heap.size, 0, #[], rfl, Nat.le_refl _, heap_alloc_new w1 _, Nat.le_refl _, Nat.zero_le _, rfl, rfl⟩⟩
  go_loopg [3, 4] 16 (fun g s i wr => CoresRel m w1 g s i wr)
  case atStart => exact ⟨0, Nat.zero_le _, rfl, rfl, HB0.out, HO0.out⟩
  case round =>
    obtain ⟨k, hk, hg, rfl, hbw, hown⟩ := hrel
    have HG := Lib.hid hg
    have HBW := Lib.hid hbw
    have HO := Lib.hid hown
    have hPl2 : P < wr.heap.size := Nat.lt_of_lt_of_le hPl hbw.size
    have HBX := Lib.hid ((hbw.block P hPl).trans HBOX.out)
    obtain ⟨r0, r1, r2⟩ := three_heads HBX.out
    clear hg hbw hown
    by_cases hlt : k < 16
    · have HH := Lib.hid (fun W => HHC.out (k : Int) W)
      rw [hasC_nat hlt] at HH
      have hlen : cntT m k ≤ k := cntT_le m k
      rw [ticksI_length] at HO
      generalize hn : cntT m k = n at *
      have HN := Lib.hid hn
      clear hn
      cases hb : m.testBit k
      · have HE := Lib.hid (ticksI_no hb)
        rw [hb] at HH
        clear hb
        go_wp2_with fail
        refine (HH.out _).mono ?_
        rintro e w' ⟨rfl, hb⟩
        have HB2 := Lib.hid (HBW.out.trans (hb.mono HBW.out.size))
        have HO2 := Lib.hid (own_below5 HO.out hb)
        clear hb
        go_wp2_with fail
        go_roundg (16 - (k + 1))
        case measure => have := HG.out; omega
        case rel => exact ⟨k + 1, by omega, rfl, by go_num, HB2.out, by rw [HE.out, ticksI_length, HN.out]; exact HO2.out⟩
      · have HE := Lib.hid (ticksI_yes hb)
        rw [hb] at HH
        clear hb
        go_wp2_with fail
        refine (HH.out _).mono ?_
        rintro e w3 ⟨rfl, hb⟩
        have HB2 := Lib.hid (HBW.out.trans (hb.mono HBW.out.size))
        have HO2 := Lib.hid (own_below5 HO.out hb)
        have hsz := HB2.out.size
        clear hb
        go_wp2_with (at_builtin; refine wpList_append_own _ rfl _ _ 35 rfl w1.heap.size 3 i0 (.int .i64 0) 1 8 Try.underlying35 hi hz0 hz1 hz2 rfl (by decide) _ _ _ rfl (HO2.out.alloc _) ⟨w3.heap.size, 0, none⟩ 1 1 [.int .i64 k] rfl rfl ?c1 ?c2 ?c3 ?c4 ?c5 ?_)
        case c1 =>
          intro j u hj
          rcases j with _ | j
          · simpa [Addr.add] using hj
          · simp at hj
        case c2 => intro u hu; simp at hu; subst hu; rfl
        case c3 => unfold maxLen; omega
        case c4 => omega
        case c5 => simp; omega
        intro v2 w2 hown2 hgrow _
        have HB3 := Lib.hid ((HB2.out.alloc hsz _).trans (below_grown4 hgrow (by simp; omega) (own_base4 HO2.out)))
        have HO3 := Lib.hid hown2
        clear hown2 hgrow hsz
        go_wp2
        go_roundg (16 - (k + 1))
        case measure => have := HG.out; omega
        case rel =>
          refine ⟨k + 1, by omega, rfl, by go_num, HB3.out, ?_⟩
          have e := HO3.out
          rw [HE.out, List.length_append, ticksI_length, HN.out, List.map_append]
          exact e
    · have hk16 : k = 16 := by omega
      subst hk16
      have HR := Lib.hid (ints_of_own HO.out (by rw [ticksI_length]; have := cntT_le m 16; omega))
      have HBE := Lib.hid (HB1.out.trans (HBW.out.mono HB1.out.size))
      go_wp2
      go_ret
      exact ⟨_, rfl, HR.out, HBE.out⟩

/-! ### Wants -/
set_option maxRecDepth 100000 in
set_option maxHeartbeats 2000000 in
theorem wants_any (f : Int) (m : Nat) (v : Value) (l : List Pl) (w : World) (h : PlsAt w v l) (hl : l.length ≤ 1200000) :
    Calls Try.prog 60 #[planA f m v] w (RetS (wantsT l) w) := by
  obtain ⟨A, cA, rfl, hlc, hcm⟩ := h.form
  have HL := Lib.hid h
  obtain ⟨w1, P, hw1, hP, hPl, hb1, hbox⟩ := box_any w #[.int .i64 f, .int .u32 m, .slice A l.length cA] 25
  obtain ⟨n, hn⟩ : ∃ n, l.length = n := ⟨_, rfl⟩
  rw [hn] at HL hlc hl hw1 hbox ⊢
  have HN := Lib.hid hn
  have HB1 := Lib.hid hb1
  have HBOX := Lib.hid hbox
  obtain ⟨r0, r1, r2⟩ := three_heads hbox
  clear h hn hb1 hbox
  unfold planA
  have HW := Lib.hid (fun v x w => wantOf_any v x w)
  unfold plA at HW
  have hmk := mk_wants w1 n hl
  obtain ⟨g0, hg0⟩ : ∃ b, w1.heap.size = b := ⟨_, rfl⟩
  obtain ⟨wm, hwm⟩ : ∃ wm, w1.alloc (.cells (spansCells (List.replicate n ((0 : Int), (0 : Int)))).toArray 58) = wm := ⟨_, rfl⟩
  have HBM : Hid (Below w1.heap.size w1 wm) := by rw [← hwm]; exact (Below.refl _ w1).alloc (Nat.le_refl _) _
  have HO1 : Hid (wm.ownsRow w1.heap.size 58 2 (.slice (some ⟨g0, 0, none⟩) n n) n (spansCells (List.replicate n ((0 : Int), (0 : Int))))) := by
    rw [← hwm, ← hg0]
    exact own_made w1 _ _ 2 n _ (by rw [spansCells_length, List.length_replicate]) (Nat.le_refl _) hl
  rw [hwm, hg0] at hmk
  have HSZ := Lib.hid hg0
  obtain ⟨q0, q1, q2⟩ := three_heads (keep_block HBOX.out HBM.out)
  have hn0 : (0 : Int) ≤ (n : Int) := by omega
  clear hwm hg0
  go_enter Try.func60, Try.ntmps60
  go_wp2_with fail
  clear hw1 hP r0 r1 r2 hmk q0 q1 q2
  go_loopg [4, 5, 13] n (fun gg _ _ s wr => ∃ (k : Nat) (D : List Sp), k ≤ n ∧ gg = n - k ∧ s = .int .i64 k ∧ Below w1.heap.size w1 wr ∧ D.length = n ∧ wr.ownsRow w1.heap.size 58 2 (.slice (some ⟨g0, 0, none⟩) n n) n (spansCells D) ∧ ∀ (j : Nat), j < k → D[j]? = (wantsT l)[j]?)
  case atStart => exact ⟨0, _, Nat.zero_le _, by omega, rfl, HBM.out, List.length_replicate, HO1.out, fun j hj => absurd hj (Nat.not_lt_zero _)⟩
  case round =>
    obtain ⟨k, D, hk, hg, rfl, hbw, hD, hown, hsame⟩ := hrel
    have HD := Lib.hid hD
    have HO := Lib.hid hown
    have HS := Lib.hid hsame
    clear hD hown hsame
    have HBW := Lib.hid hbw
    have HB := Lib.hid (HB1.out.trans (hbw.mono HB1.out.size))
    have HG := Lib.hid hg
    have hPl2 : P < wr.heap.size := Nat.lt_of_lt_of_le hPl hbw.size
    have HBX := Lib.hid ((hbw.block P hPl).trans HBOX.out)
    obtain ⟨r0, r1, r2⟩ := three_heads HBX.out
    have HLR := Lib.hid (HL.out.keep HB.out)
    clear hbw hg
    by_cases hlt : k < n
    · have hk0 : (0 : Int) ≤ (k : Int) := by omega
      have hltz : (k : Int) < (n : Int) := by omega
      obtain ⟨x, hx⟩ := exP_at (xs := l) (k := k) (by rw [HN.out]; exact hlt)
      obtain ⟨b, off, B, d, hA, hbl, _, ⟨c0, c1, c2, c3⟩, hps⟩ := HLR.out.at_ hx
      subst hA
      simp only at c0 c1 c2 c3
      have HX := Lib.hid hx
      have HPS := Lib.hid hps
      clear hx hps
      obtain ⟨w2, N, hw2, hN, hNl, hb2, hxbox⟩ := box_any wr #[.int .i64 x.u, .int .i64 x.s, .int .i64 x.c, .slice B x.ps.length d] 56
      have HB2 := Lib.hid hb2
      have HXB := Lib.hid hxbox
      obtain ⟨x0, x1, x2, x3⟩ := four_heads hxbox
      obtain ⟨p0, p1, p2⟩ := three_heads (keep_block HBX.out hb2)
      clear hb2 hxbox
      have HM : Hid ((wantsT l)[k]? = some (x.u, x.s)) := by unfold wantsT; rw [List.getElem?_map, HX.out]; rfl
      go_wp2_with fail
      refine (HW.out _ x _).mono ?_
      rintro e w3 ⟨rfl, hb3⟩
      have HB3 := Lib.hid (HBW.out.trans ((HB2.out.mono HBW.out.size).trans (hb3.mono (Nat.le_trans HBW.out.size HB2.out.size))))
      have HO3 : Hid (w3.ownsRow w1.heap.size 58 2 (.slice (some ⟨g0, 0, none⟩) n n) n (spansCells D)) := own_below5 (own_below5 HO.out HB2.out) hb3
      clear hb3 x0 x1 x2 x3 p0 p1 p2 r0 r1 r2 c0 c1 c2 c3 hw2
      obtain ⟨q, hq⟩ := ex_at (xs := D) (k := k) (by rw [HD.out]; exact hlt)
      have hown' : w3.ownsRow w1.heap.size 58 2 (.slice (some ⟨g0, 0, none⟩) D.length n) D.length (spansCells D) := by rw [HD.out]; exact HO3.out
      obtain ⟨g', cap', hA', _, hgl, _, _, hat, hfr⟩ := own_lies hown' (by rw [HD.out]; omega)
      injection hA' with hA' hA1 hA2; clear hA1 hA2
      injection hA' with hA'
      injection hA' with hA'
      subst hA'
      obtain ⟨t0, t1⟩ := hat k q hq
      have f0 := hfr (k * 2) (by rw [HD.out]; omega)
      have f1 := hfr (k * 2 + 1) (by rw [HD.out]; omega)
      obtain ⟨xu, xs, xc, xp⟩ := x
      simp only at *
      have HO4 : Hid (((w3.setCell ⟨g0, k * 2, none⟩ (.int .i64 xu)).setCell ⟨g0, k * 2 + 1, none⟩ (.int .i64 xs)).ownsRow w1.heap.size 58 2 (.slice (some ⟨g0, 0, none⟩) n n) n (spansCells (D.set k (xu, xs)))) := by
        rw [← spansCells_set D k q (xu, xs) hq]
        exact own_set (own_set HO3.out _) _
      clear hat hfr hq hown'
      go_wp2_with fail
      go_roundg (n - (k + 1))
      case measure => have := HG.out; omega
      case rel =>
        have hbb : w1.heap.size ≤ g0 := Nat.le_of_eq HSZ.out
        refine ⟨k + 1, _, Nat.succ_le_of_lt hlt, rfl, by go_num, ?_, ?_, HO4.out, same_till HS.out HM.out (by rw [HD.out]; exact hlt)⟩
        · exact (HB3.out.setCell (p := ⟨g0, k * 2, none⟩) hbb _).setCell (p := ⟨g0, k * 2 + 1, none⟩) hbb _
        · rw [List.length_set]; exact HD.out
    · have hltz : ¬ (k : Int) < (n : Int) := by omega
      have hwl : (wantsT l).length = n := by rw [wantsT_length]; exact HN.out
      have HDE : Hid (D = wantsT l) := same_end (fun j hj => HS.out j (by omega)) (by rw [HD.out, hwl])
      have HEND : Hid (∀ e, e = .returned (.slice (some ⟨g0, 0, none⟩) n n) → RetS (wantsT l) w e wr) := fun e he => ⟨_, he, spans_of_own (base := w1.heap.size) (e := 58) (by rw [hwl, ← HDE.out]; exact HO.out) (by omega), HB.out⟩
      go_wp2
      go_ret
      exact HEND.out _ rfl
end Go.Proofs.Ytpjmdnhoiobedaa
