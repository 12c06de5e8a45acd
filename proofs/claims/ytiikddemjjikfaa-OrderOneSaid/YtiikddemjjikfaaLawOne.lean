/-
  OrderOne walked.
  Conditions: the arguments are ints, or read as wants of ints.
-/
import Derived.Test.YtiikddemjjikfaaLawSorts
import Derived.Deep.CutRange
set_option linter.unusedVariables false
namespace Go.Proofs.Ytiikddemjjikfaa
open Go.RowKit Go.Sort

/-- Three boxes. -/
def boxW (w : World) (a b c : Sp) : World := ((w.alloc (.cells #[.int .i64 a.1, .int .i64 a.2] 38)).alloc (.cells #[.int .i64 b.1, .int .i64 b.2] 38)).alloc (.cells #[.int .i64 c.1, .int .i64 c.2] 38)
theorem boxW_size (w : World) (a b c : Sp) : (boxW w a b c).heap.size = w.heap.size + 1 + 1 + 1 := by simp [boxW]
theorem boxW_below (w : World) (a b c : Sp) : Below w.heap.size w (boxW w a b c) := (((Below.refl _ w).alloc (Nat.le_refl _) _).alloc (by simp) _).alloc (by simp; omega) _
theorem boxW_cells (w : World) (a b c : Sp) {w' : World} (h : Below (boxW w a b c).heap.size (boxW w a b c) w') :
    (w'.cell? ⟨w.heap.size, 0, none⟩ = some (.int .i64 a.1) ∧ w'.cell? ⟨w.heap.size, 1, none⟩ = some (.int .i64 a.2)) ∧
    (w'.cell? ⟨w.heap.size + 1, 0, none⟩ = some (.int .i64 b.1) ∧ w'.cell? ⟨w.heap.size + 1, 1, none⟩ = some (.int .i64 b.2)) ∧
    (w'.cell? ⟨w.heap.size + 1 + 1, 0, none⟩ = some (.int .i64 c.1) ∧ w'.cell? ⟨w.heap.size + 1 + 1, 1, none⟩ = some (.int .i64 c.2)) := by
  have hs := boxW_size w a b c
  refine ⟨⟨(h.cell (p := ⟨w.heap.size, 0, none⟩) ?_).trans ?_, (h.cell (p := ⟨w.heap.size, 1, none⟩) ?_).trans ?_⟩, ⟨(h.cell (p := ⟨w.heap.size + 1, 0, none⟩) ?_).trans ?_, (h.cell (p := ⟨w.heap.size + 1, 1, none⟩) ?_).trans ?_⟩,
    ⟨(h.cell (p := ⟨w.heap.size + 1 + 1, 0, none⟩) ?_).trans ?_, (h.cell (p := ⟨w.heap.size + 1 + 1, 1, none⟩) ?_).trans ?_⟩⟩
  · show w.heap.size < _; omega
  · exact Lib.cell?_alloc_some _ (Lib.cell?_alloc_some _ (news_two w w.heap.size rfl 38 a.1 a.2 0 _ rfl))
  · show w.heap.size < _; omega
  · exact Lib.cell?_alloc_some _ (Lib.cell?_alloc_some _ (news_two w w.heap.size rfl 38 a.1 a.2 1 _ rfl))
  · show w.heap.size + 1 < _; omega
  · exact Lib.cell?_alloc_some _ (news_two (w.alloc (.cells #[.int .i64 a.1, .int .i64 a.2] 38)) (w.heap.size + 1) (by simp) 38 b.1 b.2 0 _ rfl)
  · show w.heap.size + 1 < _; omega
  · exact Lib.cell?_alloc_some _ (news_two (w.alloc (.cells #[.int .i64 a.1, .int .i64 a.2] 38)) (w.heap.size + 1) (by simp) 38 b.1 b.2 1 _ rfl)
  · show w.heap.size + 1 + 1 < _; omega
  · exact news_two ((w.alloc (.cells #[.int .i64 a.1, .int .i64 a.2] 38)).alloc (.cells #[.int .i64 b.1, .int .i64 b.2] 38)) (w.heap.size + 1 + 1) (by simp) 38 c.1 c.2 0 _ rfl
  · show w.heap.size + 1 + 1 < _; omega
  · exact news_two ((w.alloc (.cells #[.int .i64 a.1, .int .i64 a.2] 38)).alloc (.cells #[.int .i64 b.1, .int .i64 b.2] 38)) (w.heap.size + 1 + 1) (by simp) 38 c.1 c.2 1 _ rfl

theorem ahead_grow (x y : Sp) (W : World) : Calls Try.prog 23 #[.agg #[.int .i64 x.1, .int .i64 x.2], .agg #[.int .i64 y.1, .int .i64 y.2]] W fun e w' => e = .returned (.bool (aheadB x y)) ∧ ∃ q os', w' = grow (W.drewN q) os' := by
  have HC := Lib.hid (fun W => compare_any x y W)
  have hd := cmpS_neg x y
  obtain ⟨x1, x2⟩ := x
  obtain ⟨y1, y2⟩ := y
  simp only at HC
  generalize cmpS (x1, x2) (y1, y2) = c at *
  generalize aheadB (x1, x2) (y1, y2) = r at *
  go_enter Try.func23, Try.ntmps23
  go_wp2_with (go_at_call 32; refine (HC.out _).mono ?_; rintro e w' ⟨rfl, q, os', rfl⟩)
  all_goals go_ret
  all_goals exact ⟨by simp_all, q, _, by rw [alloc_eq_grow, alloc_eq_grow, grow_grow]; show grow (grow (W.drewN q) _) _ = _; rw [grow_grow]⟩
theorem refAhead_grow (x y : Sp) (W : World) : Calls Try.prog 24 #[.agg #[.int .i64 x.1, .int .i64 x.2], .agg #[.int .i64 y.1, .int .i64 y.2]] W fun e w' => e = .returned (.bool (aheadB x y)) ∧ ∃ q os', w' = grow (W.drewN q) os' := by
  obtain ⟨x1, x2⟩ := x
  obtain ⟨y1, y2⟩ := y
  unfold aheadB
  simp only
  by_cases h1 : y2 < x2
  · have g1 : decide (y2 < x2) = true := decide_eq_true h1
    rw [g1, Bool.true_or]
    go_enter Try.func24, Try.ntmps24
    go_wp2
    go_ret
    exact ⟨by simp_all, 0, _, by rw [alloc_eq_grow, alloc_eq_grow, grow_grow]; rfl⟩
  · have g1 : decide (y2 < x2) = false := decide_eq_false h1
    rw [g1, Bool.false_or]
    by_cases h2 : x2 = y2
    · have g2 : (x2 == y2) = true := by simpa using h2
      have g2' : decide (x2 = y2) = true := decide_eq_true h2
      rw [g2', Bool.true_and]
      clear g2'
      go_enter Try.func24, Try.ntmps24
      go_wp2
      go_ret
      exact ⟨by simp_all, 0, _, by rw [alloc_eq_grow, alloc_eq_grow, grow_grow]; rfl⟩
    · have g2 : (x2 == y2) = false := by simpa using h2
      have g2' : decide (x2 = y2) = false := decide_eq_false h2
      rw [g2', Bool.false_and]
      clear g2'
      go_enter Try.func24, Try.ntmps24
      go_wp2
      go_ret
      exact ⟨by simp_all, 0, _, by rw [alloc_eq_grow, alloc_eq_grow, grow_grow]; rfl⟩
/-- An operation whose guard is struck. -/
theorem struck_if {b : Bool} {p q : Prop} (hb : b = false) (h : q) : if b = true then p else q := by
  rw [hb]
  exact h
theorem not_f : ∀ {q : Bool}, false = !q → q = true := by decide
theorem not_t : ∀ {q : Bool}, true = !q → q = false := by decide

set_option maxRecDepth 100000 in
set_option maxHeartbeats 8000000 in
theorem one_law (a b c : Sp) (v : Value) (ps : List Sp) (w : World) (h : ArgAt w v ps) :
    Calls Try.prog 6 #[.agg #[.int .i64 a.1, .int .i64 a.2], .agg #[.int .i64 b.1, .int .i64 b.2], .agg #[.int .i64 c.1, .int .i64 c.2], v] w (RetB (.bool true) w) := by
  have HAW := Lib.hid (fun W => awake_any W)
  have HA0 := Lib.hid (fun x y W => ahead_grow x y W)
  have HRAB := Lib.hid (fun W => refAhead_grow a b W)
  have HB0 := Lib.hid (boxW_below w a b c)
  have harg := h.keep HB0.out
  have HC := Lib.hid (fun w' hb => boxW_cells w a b c (w' := w') hb)
  have HAB := Lib.hid (HA0.out a b)
  have HBA := Lib.hid (HA0.out b a)
  have HAA := Lib.hid (HA0.out a a)
  have HBC := Lib.hid (HA0.out b c)
  have HAC := Lib.hid (HA0.out a c)
  rw [ahead_irr] at HAA
  have hone := fun h => ahead_one (a := a) (b := b) h
  have htr := fun h h2 => ahead_trans (a := a) (b := b) (c := c) h h2
  generalize aheadB a b = p at *
  generalize aheadB b a = q at *
  generalize aheadB b c = r at *
  generalize aheadB a c = s at *
  obtain ⟨W0, hW0⟩ : ∃ W0, W0 = boxW w a b c := ⟨_, rfl⟩
  have hsz := boxW_size w a b c
  have HDR := Lib.hid (show Below W0.heap.size W0 W0.drew from below_drewN (Below.refl _ _) 1)
  have HPU := Lib.hid (fun v qs x w h hl => put_any v qs x w h hl)
  have HSO := Lib.hid (fun v qs w h => sort_any v qs w h)
  have HSA := Lib.hid (fun x y qs w hx hy => same_any x y qs w hx hy)
  rw [← hW0] at HB0 HC hsz harg
  have HARG := Lib.hid harg
  obtain ⟨A, k0, rfl, hc1, hc2, hnil, _⟩ := h
  have HW0 := Lib.hid hW0
  have HD : Hid (¬ a = b → p = !q) := hone
  have HTR : Hid (p = true → r = true → s = true) := htr
  obtain ⟨a1, a2⟩ := a
  obtain ⟨b1, b2⟩ := b
  obtain ⟨c1, c2⟩ := c
  simp only at HC HAB HBA HAA HBC HAC HRAB
  have mixed : Try.prog.follows .mixedOrders = true := by kernel_rfl
  have CE := HC.out W0 (Below.refl _ _)
  have l1 := cell_grown (by show w.heap.size < _; omega) CE.1.1
  have l2 := cell_grown (by show w.heap.size < _; omega) CE.1.2
  have l3 := cell_grown (by show w.heap.size + 1 < _; omega) CE.2.1.1
  have l4 := cell_grown (by show w.heap.size + 1 < _; omega) CE.2.1.2
  have l5 := cell_grown (by show w.heap.size + 1 + 1 < _; omega) CE.2.2.1
  have l6 := cell_grown (by show w.heap.size + 1 + 1 < _; omega) CE.2.2.2
  have HLS := Lib.hid (And.intro l1 (And.intro l2 (And.intro l3 (And.intro l4 (And.intro l5 l6)))))
  clear l1 l2 l3 l4 l5 l6 CE
  clear HA0 hone htr harg hnil hW0
  go_enter Try.func6, Try.ntmps6
  go_upto_region 1 with fail
  rw [show ((w.alloc (Obj.cells #[Value.int .i64 a1, Value.int .i64 a2] 38)).alloc (Obj.cells #[Value.int .i64 b1, Value.int .i64 b2] 38)).alloc (Obj.cells #[Value.int .i64 c1, Value.int .i64 c2] 38) = W0 from HW0.out.symm]
  go_cut [52] from 11 to 52 (fun s52 wx => s52 = .bool false ∧ Below W0.heap.size W0 wx)
  case first =>
    by_cases hd1 : a1 = b1
    · by_cases hd2 : a2 = b2
      · subst hd1 hd2
        cases p
        · as_aux_lemma =>
            obtain ⟨l1, l2, l3, l4, l5, l6⟩ := HLS.out
            refine wp_region_quiet_grown mixed (by kernel_rfl) ?_
            with_reducible refine wpQuiet_step (fun K hK => ?_); go_simp; with_reducible refine hK _ ?_; clear hK K
            with_reducible refine wpQuiet_step (fun K hK => ?_); go_simp; with_reducible refine hK _ ?_; clear hK K
            quiet_step (first | (go_at_call 23; refine Calls.grown_of (HAB.out _)))
            with_reducible refine wpQuiet_step (fun K hK => ?_); go_simp; with_reducible refine hK _ ?_; clear hK K
            with_reducible refine wpQuiet_step (fun K hK => ?_); go_simp; with_reducible refine hK _ ?_; clear hK K
            quiet_step (first | (go_at_call 24; refine Calls.grown_of (HRAB.out _)))
            with_reducible refine wpQuiet_step (fun K hK => ?_); go_simp; with_reducible refine hK _ ?_; clear hK K
            with_reducible refine wpQuiet_step (fun K hK => ?_); go_simp; with_reducible refine hK _ ?_; clear hK K
            with_reducible refine wpQuiet_step (fun K hK => ?_); go_simp; with_reducible refine hK _ ?_; clear hK K
            with_reducible refine wpQuiet_step (fun K hK => ?_); go_simp; with_reducible refine hK _ ?_; clear hK K
            quiet_step (first | (go_at_call 23; refine Calls.grown_of (HAA.out _)))
            with_reducible refine wpQuiet_step (fun K hK => ?_); go_simp; with_reducible refine hK _ ?_; clear hK K
            with_reducible refine wpQuiet_step (fun K hK => ?_); go_simp; with_reducible refine hK _ ?_; clear hK K
            with_reducible refine wpQuiet_step (fun K hK => ?_); go_simp; with_reducible refine hK _ ?_; clear hK K
            with_reducible refine wpQuiet_step (fun K hK => ?_); go_simp; with_reducible refine hK _ ?_; clear hK K
            with_reducible refine wpQuiet_step (fun K hK => ?_); go_simp; with_reducible refine hK _ ?_; clear hK K
            with_reducible refine wpQuiet_step (fun K hK => ?_); go_simp; with_reducible refine hK _ ?_; clear hK K
            with_reducible refine wpQuiet_step (fun K hK => ?_); with_reducible refine struck_if (by kernel_rfl) ?_; go_simp; with_reducible refine hK _ ?_; clear hK K
            with_reducible refine wpQuiet_step (fun K hK => ?_); with_reducible refine struck_if (by kernel_rfl) ?_; go_simp; with_reducible refine hK _ ?_; clear hK K
            with_reducible refine wpQuiet_step (fun K hK => ?_); with_reducible refine struck_if (by kernel_rfl) ?_; go_simp; with_reducible refine hK _ ?_; clear hK K
            with_reducible refine wpQuiet_step (fun K hK => ?_); with_reducible refine struck_if (by kernel_rfl) ?_; go_simp; with_reducible refine hK _ ?_; clear hK K
            with_reducible refine wpQuiet_step (fun K hK => ?_); with_reducible refine struck_if (by kernel_rfl) ?_; go_simp; with_reducible refine hK _ ?_; clear hK K
            with_reducible refine wpQuiet_step (fun K hK => ?_); with_reducible refine struck_if (by kernel_rfl) ?_; go_simp; with_reducible refine hK _ ?_; clear hK K
            with_reducible refine wpQuiet_step (fun K hK => ?_); with_reducible refine struck_if (by kernel_rfl) ?_; go_simp; with_reducible refine hK _ ?_; clear hK K
            with_reducible refine wpQuiet_step (fun K hK => ?_); go_simp; with_reducible refine hK _ ?_; clear hK K
            with_reducible refine wpQuiet_step (fun K hK => ?_); go_simp; with_reducible refine hK _ ?_; clear hK K
            with_reducible refine wpQuiet_step (fun K hK => ?_); go_simp; with_reducible refine hK _ ?_; clear hK K
            with_reducible refine wpQuiet_step (fun K hK => ?_); go_simp; with_reducible refine hK _ ?_; clear hK K
            with_reducible refine wpQuiet_step (fun K hK => ?_); go_simp; with_reducible refine hK _ ?_; clear hK K
            quiet_step (first | (go_at_call 23; refine Calls.grown_of (HAB.out _)))
            with_reducible refine wpQuiet_step (fun K hK => ?_); go_simp; with_reducible refine hK _ ?_; clear hK K
            with_reducible refine wpQuiet_step (fun K hK => ?_); with_reducible refine struck_if (by kernel_rfl) ?_; go_simp; with_reducible refine hK _ ?_; clear hK K
            with_reducible refine wpQuiet_step (fun K hK => ?_); with_reducible refine struck_if (by kernel_rfl) ?_; go_simp; with_reducible refine hK _ ?_; clear hK K
            with_reducible refine wpQuiet_step (fun K hK => ?_); with_reducible refine struck_if (by kernel_rfl) ?_; go_simp; with_reducible refine hK _ ?_; clear hK K
            with_reducible refine wpQuiet_step (fun K hK => ?_); go_simp; with_reducible refine hK _ ?_; clear hK K
            with_reducible refine wpQuiet_step (fun K hK => ?_); go_simp; with_reducible refine hK _ ?_; clear hK K
            with_reducible refine wpQuiet_step (fun K hK => ?_); with_reducible refine struck_if (by kernel_rfl) ?_; go_simp; with_reducible refine hK _ ?_; clear hK K
            with_reducible refine wpQuiet_step (fun K hK => ?_); with_reducible refine struck_if (by kernel_rfl) ?_; go_simp; with_reducible refine hK _ ?_; clear hK K
            with_reducible refine wpQuiet_step (fun K hK => ?_); with_reducible refine struck_if (by kernel_rfl) ?_; go_simp; with_reducible refine hK _ ?_; clear hK K
            with_reducible refine wpQuiet_step (fun K hK => ?_); with_reducible refine struck_if (by kernel_rfl) ?_; go_simp; with_reducible refine hK _ ?_; clear hK K
            with_reducible refine wpQuiet_step (fun K hK => ?_); go_simp; with_reducible refine hK _ ?_; clear hK K
            with_reducible refine wpQuiet_step (fun K hK => ?_); go_simp; with_reducible refine hK _ ?_; clear hK K
            with_reducible refine wpQuiet_nil ?_
            intro _ hw'
            obtain ⟨⟨nq, osq⟩, hw''⟩ := hw'
            subst hw''
            go_wp2_with fail
            go_meet
            case rel => exact ⟨rfl, below_growN (Below.refl _ _) (Nat.le_refl _) _ _⟩
        · cases r
          · as_aux_lemma =>
              obtain ⟨l1, l2, l3, l4, l5, l6⟩ := HLS.out
              refine wp_region_quiet_grown mixed (by kernel_rfl) ?_
              with_reducible refine wpQuiet_step (fun K hK => ?_); go_simp; with_reducible refine hK _ ?_; clear hK K
              with_reducible refine wpQuiet_step (fun K hK => ?_); go_simp; with_reducible refine hK _ ?_; clear hK K
              quiet_step (first | (go_at_call 23; refine Calls.grown_of (HAB.out _)))
              with_reducible refine wpQuiet_step (fun K hK => ?_); go_simp; with_reducible refine hK _ ?_; clear hK K
              with_reducible refine wpQuiet_step (fun K hK => ?_); go_simp; with_reducible refine hK _ ?_; clear hK K
              quiet_step (first | (go_at_call 24; refine Calls.grown_of (HRAB.out _)))
              with_reducible refine wpQuiet_step (fun K hK => ?_); go_simp; with_reducible refine hK _ ?_; clear hK K
              with_reducible refine wpQuiet_step (fun K hK => ?_); go_simp; with_reducible refine hK _ ?_; clear hK K
              with_reducible refine wpQuiet_step (fun K hK => ?_); go_simp; with_reducible refine hK _ ?_; clear hK K
              with_reducible refine wpQuiet_step (fun K hK => ?_); go_simp; with_reducible refine hK _ ?_; clear hK K
              quiet_step (first | (go_at_call 23; refine Calls.grown_of (HAA.out _)))
              with_reducible refine wpQuiet_step (fun K hK => ?_); go_simp; with_reducible refine hK _ ?_; clear hK K
              with_reducible refine wpQuiet_step (fun K hK => ?_); go_simp; with_reducible refine hK _ ?_; clear hK K
              with_reducible refine wpQuiet_step (fun K hK => ?_); go_simp; with_reducible refine hK _ ?_; clear hK K
              with_reducible refine wpQuiet_step (fun K hK => ?_); go_simp; with_reducible refine hK _ ?_; clear hK K
              with_reducible refine wpQuiet_step (fun K hK => ?_); go_simp; with_reducible refine hK _ ?_; clear hK K
              with_reducible refine wpQuiet_step (fun K hK => ?_); go_simp; with_reducible refine hK _ ?_; clear hK K
              with_reducible refine wpQuiet_step (fun K hK => ?_); with_reducible refine struck_if (by kernel_rfl) ?_; go_simp; with_reducible refine hK _ ?_; clear hK K
              with_reducible refine wpQuiet_step (fun K hK => ?_); with_reducible refine struck_if (by kernel_rfl) ?_; go_simp; with_reducible refine hK _ ?_; clear hK K
              with_reducible refine wpQuiet_step (fun K hK => ?_); with_reducible refine struck_if (by kernel_rfl) ?_; go_simp; with_reducible refine hK _ ?_; clear hK K
              with_reducible refine wpQuiet_step (fun K hK => ?_); with_reducible refine struck_if (by kernel_rfl) ?_; go_simp; with_reducible refine hK _ ?_; clear hK K
              with_reducible refine wpQuiet_step (fun K hK => ?_); with_reducible refine struck_if (by kernel_rfl) ?_; go_simp; with_reducible refine hK _ ?_; clear hK K
              with_reducible refine wpQuiet_step (fun K hK => ?_); with_reducible refine struck_if (by kernel_rfl) ?_; go_simp; with_reducible refine hK _ ?_; clear hK K
              with_reducible refine wpQuiet_step (fun K hK => ?_); with_reducible refine struck_if (by kernel_rfl) ?_; go_simp; with_reducible refine hK _ ?_; clear hK K
              with_reducible refine wpQuiet_step (fun K hK => ?_); go_simp; with_reducible refine hK _ ?_; clear hK K
              with_reducible refine wpQuiet_step (fun K hK => ?_); go_simp; with_reducible refine hK _ ?_; clear hK K
              with_reducible refine wpQuiet_step (fun K hK => ?_); go_simp; with_reducible refine hK _ ?_; clear hK K
              with_reducible refine wpQuiet_step (fun K hK => ?_); go_simp; with_reducible refine hK _ ?_; clear hK K
              with_reducible refine wpQuiet_step (fun K hK => ?_); go_simp; with_reducible refine hK _ ?_; clear hK K
              quiet_step (first | (go_at_call 23; refine Calls.grown_of (HAB.out _)))
              with_reducible refine wpQuiet_step (fun K hK => ?_); go_simp; with_reducible refine hK _ ?_; clear hK K
              with_reducible refine wpQuiet_step (fun K hK => ?_); go_simp; with_reducible refine hK _ ?_; clear hK K
              with_reducible refine wpQuiet_step (fun K hK => ?_); go_simp; with_reducible refine hK _ ?_; clear hK K
              quiet_step (first | (go_at_call 23; refine Calls.grown_of (HBC.out _)))
              with_reducible refine wpQuiet_step (fun K hK => ?_); go_simp; with_reducible refine hK _ ?_; clear hK K
              with_reducible refine wpQuiet_step (fun K hK => ?_); go_simp; with_reducible refine hK _ ?_; clear hK K
              with_reducible refine wpQuiet_step (fun K hK => ?_); with_reducible refine struck_if (by kernel_rfl) ?_; go_simp; with_reducible refine hK _ ?_; clear hK K
              with_reducible refine wpQuiet_step (fun K hK => ?_); with_reducible refine struck_if (by kernel_rfl) ?_; go_simp; with_reducible refine hK _ ?_; clear hK K
              with_reducible refine wpQuiet_step (fun K hK => ?_); with_reducible refine struck_if (by kernel_rfl) ?_; go_simp; with_reducible refine hK _ ?_; clear hK K
              with_reducible refine wpQuiet_step (fun K hK => ?_); with_reducible refine struck_if (by kernel_rfl) ?_; go_simp; with_reducible refine hK _ ?_; clear hK K
              with_reducible refine wpQuiet_step (fun K hK => ?_); go_simp; with_reducible refine hK _ ?_; clear hK K
              with_reducible refine wpQuiet_step (fun K hK => ?_); go_simp; with_reducible refine hK _ ?_; clear hK K
              with_reducible refine wpQuiet_nil ?_
              intro _ hw'
              obtain ⟨⟨nq, osq⟩, hw''⟩ := hw'
              subst hw''
              go_wp2_with fail
              go_meet
              case rel => exact ⟨rfl, below_growN (Below.refl _ _) (Nat.le_refl _) _ _⟩
          · obtain rfl : s = true := HTR.out rfl rfl
            as_aux_lemma =>
              obtain ⟨l1, l2, l3, l4, l5, l6⟩ := HLS.out
              refine wp_region_quiet_grown mixed (by kernel_rfl) ?_
              with_reducible refine wpQuiet_step (fun K hK => ?_); go_simp; with_reducible refine hK _ ?_; clear hK K
              with_reducible refine wpQuiet_step (fun K hK => ?_); go_simp; with_reducible refine hK _ ?_; clear hK K
              quiet_step (first | (go_at_call 23; refine Calls.grown_of (HAB.out _)))
              with_reducible refine wpQuiet_step (fun K hK => ?_); go_simp; with_reducible refine hK _ ?_; clear hK K
              with_reducible refine wpQuiet_step (fun K hK => ?_); go_simp; with_reducible refine hK _ ?_; clear hK K
              quiet_step (first | (go_at_call 24; refine Calls.grown_of (HRAB.out _)))
              with_reducible refine wpQuiet_step (fun K hK => ?_); go_simp; with_reducible refine hK _ ?_; clear hK K
              with_reducible refine wpQuiet_step (fun K hK => ?_); go_simp; with_reducible refine hK _ ?_; clear hK K
              with_reducible refine wpQuiet_step (fun K hK => ?_); go_simp; with_reducible refine hK _ ?_; clear hK K
              with_reducible refine wpQuiet_step (fun K hK => ?_); go_simp; with_reducible refine hK _ ?_; clear hK K
              quiet_step (first | (go_at_call 23; refine Calls.grown_of (HAA.out _)))
              with_reducible refine wpQuiet_step (fun K hK => ?_); go_simp; with_reducible refine hK _ ?_; clear hK K
              with_reducible refine wpQuiet_step (fun K hK => ?_); go_simp; with_reducible refine hK _ ?_; clear hK K
              with_reducible refine wpQuiet_step (fun K hK => ?_); go_simp; with_reducible refine hK _ ?_; clear hK K
              with_reducible refine wpQuiet_step (fun K hK => ?_); go_simp; with_reducible refine hK _ ?_; clear hK K
              with_reducible refine wpQuiet_step (fun K hK => ?_); go_simp; with_reducible refine hK _ ?_; clear hK K
              with_reducible refine wpQuiet_step (fun K hK => ?_); go_simp; with_reducible refine hK _ ?_; clear hK K
              with_reducible refine wpQuiet_step (fun K hK => ?_); with_reducible refine struck_if (by kernel_rfl) ?_; go_simp; with_reducible refine hK _ ?_; clear hK K
              with_reducible refine wpQuiet_step (fun K hK => ?_); with_reducible refine struck_if (by kernel_rfl) ?_; go_simp; with_reducible refine hK _ ?_; clear hK K
              with_reducible refine wpQuiet_step (fun K hK => ?_); with_reducible refine struck_if (by kernel_rfl) ?_; go_simp; with_reducible refine hK _ ?_; clear hK K
              with_reducible refine wpQuiet_step (fun K hK => ?_); with_reducible refine struck_if (by kernel_rfl) ?_; go_simp; with_reducible refine hK _ ?_; clear hK K
              with_reducible refine wpQuiet_step (fun K hK => ?_); with_reducible refine struck_if (by kernel_rfl) ?_; go_simp; with_reducible refine hK _ ?_; clear hK K
              with_reducible refine wpQuiet_step (fun K hK => ?_); with_reducible refine struck_if (by kernel_rfl) ?_; go_simp; with_reducible refine hK _ ?_; clear hK K
              with_reducible refine wpQuiet_step (fun K hK => ?_); with_reducible refine struck_if (by kernel_rfl) ?_; go_simp; with_reducible refine hK _ ?_; clear hK K
              with_reducible refine wpQuiet_step (fun K hK => ?_); go_simp; with_reducible refine hK _ ?_; clear hK K
              with_reducible refine wpQuiet_step (fun K hK => ?_); go_simp; with_reducible refine hK _ ?_; clear hK K
              with_reducible refine wpQuiet_step (fun K hK => ?_); go_simp; with_reducible refine hK _ ?_; clear hK K
              with_reducible refine wpQuiet_step (fun K hK => ?_); go_simp; with_reducible refine hK _ ?_; clear hK K
              with_reducible refine wpQuiet_step (fun K hK => ?_); go_simp; with_reducible refine hK _ ?_; clear hK K
              quiet_step (first | (go_at_call 23; refine Calls.grown_of (HAB.out _)))
              with_reducible refine wpQuiet_step (fun K hK => ?_); go_simp; with_reducible refine hK _ ?_; clear hK K
              with_reducible refine wpQuiet_step (fun K hK => ?_); go_simp; with_reducible refine hK _ ?_; clear hK K
              with_reducible refine wpQuiet_step (fun K hK => ?_); go_simp; with_reducible refine hK _ ?_; clear hK K
              quiet_step (first | (go_at_call 23; refine Calls.grown_of (HBC.out _)))
              with_reducible refine wpQuiet_step (fun K hK => ?_); go_simp; with_reducible refine hK _ ?_; clear hK K
              with_reducible refine wpQuiet_step (fun K hK => ?_); go_simp; with_reducible refine hK _ ?_; clear hK K
              with_reducible refine wpQuiet_step (fun K hK => ?_); go_simp; with_reducible refine hK _ ?_; clear hK K
              with_reducible refine wpQuiet_step (fun K hK => ?_); go_simp; with_reducible refine hK _ ?_; clear hK K
              quiet_step (first | (go_at_call 23; refine Calls.grown_of (HAC.out _)))
              with_reducible refine wpQuiet_step (fun K hK => ?_); go_simp; with_reducible refine hK _ ?_; clear hK K
              with_reducible refine wpQuiet_step (fun K hK => ?_); go_simp; with_reducible refine hK _ ?_; clear hK K
              with_reducible refine wpQuiet_step (fun K hK => ?_); go_simp; with_reducible refine hK _ ?_; clear hK K
              with_reducible refine wpQuiet_nil ?_
              intro _ hw'
              obtain ⟨⟨nq, osq⟩, hw''⟩ := hw'
              subst hw''
              go_wp2_with fail
              go_meet
              case rel => exact ⟨rfl, below_growN (Below.refl _ _) (Nat.le_refl _) _ _⟩
      · have hpq := HD.out (fun e => hd2 (congrArg Prod.snd e))
        have e1 : (a2 == b2) = false := by simpa using hd2
        subst hd1
        clear hd2
        cases p
        · obtain rfl := not_f hpq
          clear hpq
          as_aux_lemma =>
            obtain ⟨l1, l2, l3, l4, l5, l6⟩ := HLS.out
            refine wp_region_quiet_grown mixed (by kernel_rfl) ?_
            with_reducible refine wpQuiet_step (fun K hK => ?_); go_simp; with_reducible refine hK _ ?_; clear hK K
            with_reducible refine wpQuiet_step (fun K hK => ?_); go_simp; with_reducible refine hK _ ?_; clear hK K
            quiet_step (first | (go_at_call 23; refine Calls.grown_of (HAB.out _)))
            with_reducible refine wpQuiet_step (fun K hK => ?_); go_simp; with_reducible refine hK _ ?_; clear hK K
            with_reducible refine wpQuiet_step (fun K hK => ?_); go_simp; with_reducible refine hK _ ?_; clear hK K
            quiet_step (first | (go_at_call 24; refine Calls.grown_of (HRAB.out _)))
            with_reducible refine wpQuiet_step (fun K hK => ?_); go_simp; with_reducible refine hK _ ?_; clear hK K
            with_reducible refine wpQuiet_step (fun K hK => ?_); go_simp; with_reducible refine hK _ ?_; clear hK K
            with_reducible refine wpQuiet_step (fun K hK => ?_); go_simp; with_reducible refine hK _ ?_; clear hK K
            with_reducible refine wpQuiet_step (fun K hK => ?_); go_simp; with_reducible refine hK _ ?_; clear hK K
            quiet_step (first | (go_at_call 23; refine Calls.grown_of (HAA.out _)))
            with_reducible refine wpQuiet_step (fun K hK => ?_); go_simp; with_reducible refine hK _ ?_; clear hK K
            with_reducible refine wpQuiet_step (fun K hK => ?_); go_simp; with_reducible refine hK _ ?_; clear hK K
            with_reducible refine wpQuiet_step (fun K hK => ?_); go_simp; with_reducible refine hK _ ?_; clear hK K
            with_reducible refine wpQuiet_step (fun K hK => ?_); go_simp; with_reducible refine hK _ ?_; clear hK K
            with_reducible refine wpQuiet_step (fun K hK => ?_); go_simp; with_reducible refine hK _ ?_; clear hK K
            with_reducible refine wpQuiet_step (fun K hK => ?_); go_simp; with_reducible refine hK _ ?_; clear hK K
            with_reducible refine wpQuiet_step (fun K hK => ?_); go_simp; with_reducible refine hK _ ?_; clear hK K
            with_reducible refine wpQuiet_step (fun K hK => ?_); go_simp; with_reducible refine hK _ ?_; clear hK K
            quiet_step (first | (go_at_call 23; refine Calls.grown_of (HAB.out _)))
            with_reducible refine wpQuiet_step (fun K hK => ?_); go_simp; with_reducible refine hK _ ?_; clear hK K
            with_reducible refine wpQuiet_step (fun K hK => ?_); go_simp; with_reducible refine hK _ ?_; clear hK K
            quiet_step (first | (go_at_call 23; refine Calls.grown_of (HBA.out _)))
            with_reducible refine wpQuiet_step (fun K hK => ?_); go_simp; with_reducible refine hK _ ?_; clear hK K
            with_reducible refine wpQuiet_step (fun K hK => ?_); go_simp; with_reducible refine hK _ ?_; clear hK K
            with_reducible refine wpQuiet_step (fun K hK => ?_); go_simp; with_reducible refine hK _ ?_; clear hK K
            with_reducible refine wpQuiet_step (fun K hK => ?_); go_simp; with_reducible refine hK _ ?_; clear hK K
            with_reducible refine wpQuiet_step (fun K hK => ?_); go_simp; with_reducible refine hK _ ?_; clear hK K
            with_reducible refine wpQuiet_step (fun K hK => ?_); go_simp; with_reducible refine hK _ ?_; clear hK K
            quiet_step (first | (go_at_call 23; refine Calls.grown_of (HAB.out _)))
            with_reducible refine wpQuiet_step (fun K hK => ?_); go_simp; with_reducible refine hK _ ?_; clear hK K
            with_reducible refine wpQuiet_step (fun K hK => ?_); with_reducible refine struck_if (by kernel_rfl) ?_; go_simp; with_reducible refine hK _ ?_; clear hK K
            with_reducible refine wpQuiet_step (fun K hK => ?_); with_reducible refine struck_if (by kernel_rfl) ?_; go_simp; with_reducible refine hK _ ?_; clear hK K
            with_reducible refine wpQuiet_step (fun K hK => ?_); with_reducible refine struck_if (by kernel_rfl) ?_; go_simp; with_reducible refine hK _ ?_; clear hK K
            with_reducible refine wpQuiet_step (fun K hK => ?_); go_simp; with_reducible refine hK _ ?_; clear hK K
            with_reducible refine wpQuiet_step (fun K hK => ?_); go_simp; with_reducible refine hK _ ?_; clear hK K
            with_reducible refine wpQuiet_step (fun K hK => ?_); with_reducible refine struck_if (by kernel_rfl) ?_; go_simp; with_reducible refine hK _ ?_; clear hK K
            with_reducible refine wpQuiet_step (fun K hK => ?_); with_reducible refine struck_if (by kernel_rfl) ?_; go_simp; with_reducible refine hK _ ?_; clear hK K
            with_reducible refine wpQuiet_step (fun K hK => ?_); with_reducible refine struck_if (by kernel_rfl) ?_; go_simp; with_reducible refine hK _ ?_; clear hK K
            with_reducible refine wpQuiet_step (fun K hK => ?_); with_reducible refine struck_if (by kernel_rfl) ?_; go_simp; with_reducible refine hK _ ?_; clear hK K
            with_reducible refine wpQuiet_step (fun K hK => ?_); go_simp; with_reducible refine hK _ ?_; clear hK K
            with_reducible refine wpQuiet_step (fun K hK => ?_); go_simp; with_reducible refine hK _ ?_; clear hK K
            with_reducible refine wpQuiet_nil ?_
            intro _ hw'
            obtain ⟨⟨nq, osq⟩, hw''⟩ := hw'
            subst hw''
            go_wp2_with fail
            go_meet
            case rel => exact ⟨rfl, below_growN (Below.refl _ _) (Nat.le_refl _) _ _⟩
        · obtain rfl := not_t hpq
          clear hpq
          cases r
          · as_aux_lemma =>
              obtain ⟨l1, l2, l3, l4, l5, l6⟩ := HLS.out
              refine wp_region_quiet_grown mixed (by kernel_rfl) ?_
              with_reducible refine wpQuiet_step (fun K hK => ?_); go_simp; with_reducible refine hK _ ?_; clear hK K
              with_reducible refine wpQuiet_step (fun K hK => ?_); go_simp; with_reducible refine hK _ ?_; clear hK K
              quiet_step (first | (go_at_call 23; refine Calls.grown_of (HAB.out _)))
              with_reducible refine wpQuiet_step (fun K hK => ?_); go_simp; with_reducible refine hK _ ?_; clear hK K
              with_reducible refine wpQuiet_step (fun K hK => ?_); go_simp; with_reducible refine hK _ ?_; clear hK K
              quiet_step (first | (go_at_call 24; refine Calls.grown_of (HRAB.out _)))
              with_reducible refine wpQuiet_step (fun K hK => ?_); go_simp; with_reducible refine hK _ ?_; clear hK K
              with_reducible refine wpQuiet_step (fun K hK => ?_); go_simp; with_reducible refine hK _ ?_; clear hK K
              with_reducible refine wpQuiet_step (fun K hK => ?_); go_simp; with_reducible refine hK _ ?_; clear hK K
              with_reducible refine wpQuiet_step (fun K hK => ?_); go_simp; with_reducible refine hK _ ?_; clear hK K
              quiet_step (first | (go_at_call 23; refine Calls.grown_of (HAA.out _)))
              with_reducible refine wpQuiet_step (fun K hK => ?_); go_simp; with_reducible refine hK _ ?_; clear hK K
              with_reducible refine wpQuiet_step (fun K hK => ?_); go_simp; with_reducible refine hK _ ?_; clear hK K
              with_reducible refine wpQuiet_step (fun K hK => ?_); go_simp; with_reducible refine hK _ ?_; clear hK K
              with_reducible refine wpQuiet_step (fun K hK => ?_); go_simp; with_reducible refine hK _ ?_; clear hK K
              with_reducible refine wpQuiet_step (fun K hK => ?_); go_simp; with_reducible refine hK _ ?_; clear hK K
              with_reducible refine wpQuiet_step (fun K hK => ?_); go_simp; with_reducible refine hK _ ?_; clear hK K
              with_reducible refine wpQuiet_step (fun K hK => ?_); go_simp; with_reducible refine hK _ ?_; clear hK K
              with_reducible refine wpQuiet_step (fun K hK => ?_); go_simp; with_reducible refine hK _ ?_; clear hK K
              quiet_step (first | (go_at_call 23; refine Calls.grown_of (HAB.out _)))
              with_reducible refine wpQuiet_step (fun K hK => ?_); go_simp; with_reducible refine hK _ ?_; clear hK K
              with_reducible refine wpQuiet_step (fun K hK => ?_); go_simp; with_reducible refine hK _ ?_; clear hK K
              quiet_step (first | (go_at_call 23; refine Calls.grown_of (HBA.out _)))
              with_reducible refine wpQuiet_step (fun K hK => ?_); go_simp; with_reducible refine hK _ ?_; clear hK K
              with_reducible refine wpQuiet_step (fun K hK => ?_); go_simp; with_reducible refine hK _ ?_; clear hK K
              with_reducible refine wpQuiet_step (fun K hK => ?_); go_simp; with_reducible refine hK _ ?_; clear hK K
              with_reducible refine wpQuiet_step (fun K hK => ?_); go_simp; with_reducible refine hK _ ?_; clear hK K
              with_reducible refine wpQuiet_step (fun K hK => ?_); go_simp; with_reducible refine hK _ ?_; clear hK K
              with_reducible refine wpQuiet_step (fun K hK => ?_); go_simp; with_reducible refine hK _ ?_; clear hK K
              quiet_step (first | (go_at_call 23; refine Calls.grown_of (HAB.out _)))
              with_reducible refine wpQuiet_step (fun K hK => ?_); go_simp; with_reducible refine hK _ ?_; clear hK K
              with_reducible refine wpQuiet_step (fun K hK => ?_); go_simp; with_reducible refine hK _ ?_; clear hK K
              with_reducible refine wpQuiet_step (fun K hK => ?_); go_simp; with_reducible refine hK _ ?_; clear hK K
              quiet_step (first | (go_at_call 23; refine Calls.grown_of (HBC.out _)))
              with_reducible refine wpQuiet_step (fun K hK => ?_); go_simp; with_reducible refine hK _ ?_; clear hK K
              with_reducible refine wpQuiet_step (fun K hK => ?_); go_simp; with_reducible refine hK _ ?_; clear hK K
              with_reducible refine wpQuiet_step (fun K hK => ?_); with_reducible refine struck_if (by kernel_rfl) ?_; go_simp; with_reducible refine hK _ ?_; clear hK K
              with_reducible refine wpQuiet_step (fun K hK => ?_); with_reducible refine struck_if (by kernel_rfl) ?_; go_simp; with_reducible refine hK _ ?_; clear hK K
              with_reducible refine wpQuiet_step (fun K hK => ?_); with_reducible refine struck_if (by kernel_rfl) ?_; go_simp; with_reducible refine hK _ ?_; clear hK K
              with_reducible refine wpQuiet_step (fun K hK => ?_); with_reducible refine struck_if (by kernel_rfl) ?_; go_simp; with_reducible refine hK _ ?_; clear hK K
              with_reducible refine wpQuiet_step (fun K hK => ?_); go_simp; with_reducible refine hK _ ?_; clear hK K
              with_reducible refine wpQuiet_step (fun K hK => ?_); go_simp; with_reducible refine hK _ ?_; clear hK K
              with_reducible refine wpQuiet_nil ?_
              intro _ hw'
              obtain ⟨⟨nq, osq⟩, hw''⟩ := hw'
              subst hw''
              go_wp2_with fail
              go_meet
              case rel => exact ⟨rfl, below_growN (Below.refl _ _) (Nat.le_refl _) _ _⟩
          · obtain rfl : s = true := HTR.out rfl rfl
            as_aux_lemma =>
              obtain ⟨l1, l2, l3, l4, l5, l6⟩ := HLS.out
              refine wp_region_quiet_grown mixed (by kernel_rfl) ?_
              with_reducible refine wpQuiet_step (fun K hK => ?_); go_simp; with_reducible refine hK _ ?_; clear hK K
              with_reducible refine wpQuiet_step (fun K hK => ?_); go_simp; with_reducible refine hK _ ?_; clear hK K
              quiet_step (first | (go_at_call 23; refine Calls.grown_of (HAB.out _)))
              with_reducible refine wpQuiet_step (fun K hK => ?_); go_simp; with_reducible refine hK _ ?_; clear hK K
              with_reducible refine wpQuiet_step (fun K hK => ?_); go_simp; with_reducible refine hK _ ?_; clear hK K
              quiet_step (first | (go_at_call 24; refine Calls.grown_of (HRAB.out _)))
              with_reducible refine wpQuiet_step (fun K hK => ?_); go_simp; with_reducible refine hK _ ?_; clear hK K
              with_reducible refine wpQuiet_step (fun K hK => ?_); go_simp; with_reducible refine hK _ ?_; clear hK K
              with_reducible refine wpQuiet_step (fun K hK => ?_); go_simp; with_reducible refine hK _ ?_; clear hK K
              with_reducible refine wpQuiet_step (fun K hK => ?_); go_simp; with_reducible refine hK _ ?_; clear hK K
              quiet_step (first | (go_at_call 23; refine Calls.grown_of (HAA.out _)))
              with_reducible refine wpQuiet_step (fun K hK => ?_); go_simp; with_reducible refine hK _ ?_; clear hK K
              with_reducible refine wpQuiet_step (fun K hK => ?_); go_simp; with_reducible refine hK _ ?_; clear hK K
              with_reducible refine wpQuiet_step (fun K hK => ?_); go_simp; with_reducible refine hK _ ?_; clear hK K
              with_reducible refine wpQuiet_step (fun K hK => ?_); go_simp; with_reducible refine hK _ ?_; clear hK K
              with_reducible refine wpQuiet_step (fun K hK => ?_); go_simp; with_reducible refine hK _ ?_; clear hK K
              with_reducible refine wpQuiet_step (fun K hK => ?_); go_simp; with_reducible refine hK _ ?_; clear hK K
              with_reducible refine wpQuiet_step (fun K hK => ?_); go_simp; with_reducible refine hK _ ?_; clear hK K
              with_reducible refine wpQuiet_step (fun K hK => ?_); go_simp; with_reducible refine hK _ ?_; clear hK K
              quiet_step (first | (go_at_call 23; refine Calls.grown_of (HAB.out _)))
              with_reducible refine wpQuiet_step (fun K hK => ?_); go_simp; with_reducible refine hK _ ?_; clear hK K
              with_reducible refine wpQuiet_step (fun K hK => ?_); go_simp; with_reducible refine hK _ ?_; clear hK K
              quiet_step (first | (go_at_call 23; refine Calls.grown_of (HBA.out _)))
              with_reducible refine wpQuiet_step (fun K hK => ?_); go_simp; with_reducible refine hK _ ?_; clear hK K
              with_reducible refine wpQuiet_step (fun K hK => ?_); go_simp; with_reducible refine hK _ ?_; clear hK K
              with_reducible refine wpQuiet_step (fun K hK => ?_); go_simp; with_reducible refine hK _ ?_; clear hK K
              with_reducible refine wpQuiet_step (fun K hK => ?_); go_simp; with_reducible refine hK _ ?_; clear hK K
              with_reducible refine wpQuiet_step (fun K hK => ?_); go_simp; with_reducible refine hK _ ?_; clear hK K
              with_reducible refine wpQuiet_step (fun K hK => ?_); go_simp; with_reducible refine hK _ ?_; clear hK K
              quiet_step (first | (go_at_call 23; refine Calls.grown_of (HAB.out _)))
              with_reducible refine wpQuiet_step (fun K hK => ?_); go_simp; with_reducible refine hK _ ?_; clear hK K
              with_reducible refine wpQuiet_step (fun K hK => ?_); go_simp; with_reducible refine hK _ ?_; clear hK K
              with_reducible refine wpQuiet_step (fun K hK => ?_); go_simp; with_reducible refine hK _ ?_; clear hK K
              quiet_step (first | (go_at_call 23; refine Calls.grown_of (HBC.out _)))
              with_reducible refine wpQuiet_step (fun K hK => ?_); go_simp; with_reducible refine hK _ ?_; clear hK K
              with_reducible refine wpQuiet_step (fun K hK => ?_); go_simp; with_reducible refine hK _ ?_; clear hK K
              with_reducible refine wpQuiet_step (fun K hK => ?_); go_simp; with_reducible refine hK _ ?_; clear hK K
              with_reducible refine wpQuiet_step (fun K hK => ?_); go_simp; with_reducible refine hK _ ?_; clear hK K
              quiet_step (first | (go_at_call 23; refine Calls.grown_of (HAC.out _)))
              with_reducible refine wpQuiet_step (fun K hK => ?_); go_simp; with_reducible refine hK _ ?_; clear hK K
              with_reducible refine wpQuiet_step (fun K hK => ?_); go_simp; with_reducible refine hK _ ?_; clear hK K
              with_reducible refine wpQuiet_step (fun K hK => ?_); go_simp; with_reducible refine hK _ ?_; clear hK K
              with_reducible refine wpQuiet_nil ?_
              intro _ hw'
              obtain ⟨⟨nq, osq⟩, hw''⟩ := hw'
              subst hw''
              go_wp2_with fail
              go_meet
              case rel => exact ⟨rfl, below_growN (Below.refl _ _) (Nat.le_refl _) _ _⟩
    · have hpq := HD.out (fun e => hd1 (congrArg Prod.fst e))
      have e1 : (a1 == b1) = false := by simpa using hd1
      clear hd1
      cases p
      · obtain rfl := not_f hpq
        clear hpq
        as_aux_lemma =>
          obtain ⟨l1, l2, l3, l4, l5, l6⟩ := HLS.out
          refine wp_region_quiet_grown mixed (by kernel_rfl) ?_
          with_reducible refine wpQuiet_step (fun K hK => ?_); go_simp; with_reducible refine hK _ ?_; clear hK K
          with_reducible refine wpQuiet_step (fun K hK => ?_); go_simp; with_reducible refine hK _ ?_; clear hK K
          quiet_step (first | (go_at_call 23; refine Calls.grown_of (HAB.out _)))
          with_reducible refine wpQuiet_step (fun K hK => ?_); go_simp; with_reducible refine hK _ ?_; clear hK K
          with_reducible refine wpQuiet_step (fun K hK => ?_); go_simp; with_reducible refine hK _ ?_; clear hK K
          quiet_step (first | (go_at_call 24; refine Calls.grown_of (HRAB.out _)))
          with_reducible refine wpQuiet_step (fun K hK => ?_); go_simp; with_reducible refine hK _ ?_; clear hK K
          with_reducible refine wpQuiet_step (fun K hK => ?_); go_simp; with_reducible refine hK _ ?_; clear hK K
          with_reducible refine wpQuiet_step (fun K hK => ?_); go_simp; with_reducible refine hK _ ?_; clear hK K
          with_reducible refine wpQuiet_step (fun K hK => ?_); go_simp; with_reducible refine hK _ ?_; clear hK K
          quiet_step (first | (go_at_call 23; refine Calls.grown_of (HAA.out _)))
          with_reducible refine wpQuiet_step (fun K hK => ?_); go_simp; with_reducible refine hK _ ?_; clear hK K
          with_reducible refine wpQuiet_step (fun K hK => ?_); go_simp; with_reducible refine hK _ ?_; clear hK K
          with_reducible refine wpQuiet_step (fun K hK => ?_); go_simp; with_reducible refine hK _ ?_; clear hK K
          with_reducible refine wpQuiet_step (fun K hK => ?_); go_simp; with_reducible refine hK _ ?_; clear hK K
          with_reducible refine wpQuiet_step (fun K hK => ?_); go_simp; with_reducible refine hK _ ?_; clear hK K
          with_reducible refine wpQuiet_step (fun K hK => ?_); go_simp; with_reducible refine hK _ ?_; clear hK K
          with_reducible refine wpQuiet_step (fun K hK => ?_); go_simp; with_reducible refine hK _ ?_; clear hK K
          with_reducible refine wpQuiet_step (fun K hK => ?_); go_simp; with_reducible refine hK _ ?_; clear hK K
          quiet_step (first | (go_at_call 23; refine Calls.grown_of (HAB.out _)))
          with_reducible refine wpQuiet_step (fun K hK => ?_); go_simp; with_reducible refine hK _ ?_; clear hK K
          with_reducible refine wpQuiet_step (fun K hK => ?_); go_simp; with_reducible refine hK _ ?_; clear hK K
          quiet_step (first | (go_at_call 23; refine Calls.grown_of (HBA.out _)))
          with_reducible refine wpQuiet_step (fun K hK => ?_); go_simp; with_reducible refine hK _ ?_; clear hK K
          with_reducible refine wpQuiet_step (fun K hK => ?_); go_simp; with_reducible refine hK _ ?_; clear hK K
          with_reducible refine wpQuiet_step (fun K hK => ?_); go_simp; with_reducible refine hK _ ?_; clear hK K
          with_reducible refine wpQuiet_step (fun K hK => ?_); go_simp; with_reducible refine hK _ ?_; clear hK K
          with_reducible refine wpQuiet_step (fun K hK => ?_); go_simp; with_reducible refine hK _ ?_; clear hK K
          with_reducible refine wpQuiet_step (fun K hK => ?_); go_simp; with_reducible refine hK _ ?_; clear hK K
          quiet_step (first | (go_at_call 23; refine Calls.grown_of (HAB.out _)))
          with_reducible refine wpQuiet_step (fun K hK => ?_); go_simp; with_reducible refine hK _ ?_; clear hK K
          with_reducible refine wpQuiet_step (fun K hK => ?_); with_reducible refine struck_if (by kernel_rfl) ?_; go_simp; with_reducible refine hK _ ?_; clear hK K
          with_reducible refine wpQuiet_step (fun K hK => ?_); with_reducible refine struck_if (by kernel_rfl) ?_; go_simp; with_reducible refine hK _ ?_; clear hK K
          with_reducible refine wpQuiet_step (fun K hK => ?_); with_reducible refine struck_if (by kernel_rfl) ?_; go_simp; with_reducible refine hK _ ?_; clear hK K
          with_reducible refine wpQuiet_step (fun K hK => ?_); go_simp; with_reducible refine hK _ ?_; clear hK K
          with_reducible refine wpQuiet_step (fun K hK => ?_); go_simp; with_reducible refine hK _ ?_; clear hK K
          with_reducible refine wpQuiet_step (fun K hK => ?_); with_reducible refine struck_if (by kernel_rfl) ?_; go_simp; with_reducible refine hK _ ?_; clear hK K
          with_reducible refine wpQuiet_step (fun K hK => ?_); with_reducible refine struck_if (by kernel_rfl) ?_; go_simp; with_reducible refine hK _ ?_; clear hK K
          with_reducible refine wpQuiet_step (fun K hK => ?_); with_reducible refine struck_if (by kernel_rfl) ?_; go_simp; with_reducible refine hK _ ?_; clear hK K
          with_reducible refine wpQuiet_step (fun K hK => ?_); with_reducible refine struck_if (by kernel_rfl) ?_; go_simp; with_reducible refine hK _ ?_; clear hK K
          with_reducible refine wpQuiet_step (fun K hK => ?_); go_simp; with_reducible refine hK _ ?_; clear hK K
          with_reducible refine wpQuiet_step (fun K hK => ?_); go_simp; with_reducible refine hK _ ?_; clear hK K
          with_reducible refine wpQuiet_nil ?_
          intro _ hw'
          obtain ⟨⟨nq, osq⟩, hw''⟩ := hw'
          subst hw''
          go_wp2_with fail
          go_meet
          case rel => exact ⟨rfl, below_growN (Below.refl _ _) (Nat.le_refl _) _ _⟩
      · obtain rfl := not_t hpq
        clear hpq
        cases r
        · as_aux_lemma =>
            obtain ⟨l1, l2, l3, l4, l5, l6⟩ := HLS.out
            refine wp_region_quiet_grown mixed (by kernel_rfl) ?_
            with_reducible refine wpQuiet_step (fun K hK => ?_); go_simp; with_reducible refine hK _ ?_; clear hK K
            with_reducible refine wpQuiet_step (fun K hK => ?_); go_simp; with_reducible refine hK _ ?_; clear hK K
            quiet_step (first | (go_at_call 23; refine Calls.grown_of (HAB.out _)))
            with_reducible refine wpQuiet_step (fun K hK => ?_); go_simp; with_reducible refine hK _ ?_; clear hK K
            with_reducible refine wpQuiet_step (fun K hK => ?_); go_simp; with_reducible refine hK _ ?_; clear hK K
            quiet_step (first | (go_at_call 24; refine Calls.grown_of (HRAB.out _)))
            with_reducible refine wpQuiet_step (fun K hK => ?_); go_simp; with_reducible refine hK _ ?_; clear hK K
            with_reducible refine wpQuiet_step (fun K hK => ?_); go_simp; with_reducible refine hK _ ?_; clear hK K
            with_reducible refine wpQuiet_step (fun K hK => ?_); go_simp; with_reducible refine hK _ ?_; clear hK K
            with_reducible refine wpQuiet_step (fun K hK => ?_); go_simp; with_reducible refine hK _ ?_; clear hK K
            quiet_step (first | (go_at_call 23; refine Calls.grown_of (HAA.out _)))
            with_reducible refine wpQuiet_step (fun K hK => ?_); go_simp; with_reducible refine hK _ ?_; clear hK K
            with_reducible refine wpQuiet_step (fun K hK => ?_); go_simp; with_reducible refine hK _ ?_; clear hK K
            with_reducible refine wpQuiet_step (fun K hK => ?_); go_simp; with_reducible refine hK _ ?_; clear hK K
            with_reducible refine wpQuiet_step (fun K hK => ?_); go_simp; with_reducible refine hK _ ?_; clear hK K
            with_reducible refine wpQuiet_step (fun K hK => ?_); go_simp; with_reducible refine hK _ ?_; clear hK K
            with_reducible refine wpQuiet_step (fun K hK => ?_); go_simp; with_reducible refine hK _ ?_; clear hK K
            with_reducible refine wpQuiet_step (fun K hK => ?_); go_simp; with_reducible refine hK _ ?_; clear hK K
            with_reducible refine wpQuiet_step (fun K hK => ?_); go_simp; with_reducible refine hK _ ?_; clear hK K
            quiet_step (first | (go_at_call 23; refine Calls.grown_of (HAB.out _)))
            with_reducible refine wpQuiet_step (fun K hK => ?_); go_simp; with_reducible refine hK _ ?_; clear hK K
            with_reducible refine wpQuiet_step (fun K hK => ?_); go_simp; with_reducible refine hK _ ?_; clear hK K
            quiet_step (first | (go_at_call 23; refine Calls.grown_of (HBA.out _)))
            with_reducible refine wpQuiet_step (fun K hK => ?_); go_simp; with_reducible refine hK _ ?_; clear hK K
            with_reducible refine wpQuiet_step (fun K hK => ?_); go_simp; with_reducible refine hK _ ?_; clear hK K
            with_reducible refine wpQuiet_step (fun K hK => ?_); go_simp; with_reducible refine hK _ ?_; clear hK K
            with_reducible refine wpQuiet_step (fun K hK => ?_); go_simp; with_reducible refine hK _ ?_; clear hK K
            with_reducible refine wpQuiet_step (fun K hK => ?_); go_simp; with_reducible refine hK _ ?_; clear hK K
            with_reducible refine wpQuiet_step (fun K hK => ?_); go_simp; with_reducible refine hK _ ?_; clear hK K
            quiet_step (first | (go_at_call 23; refine Calls.grown_of (HAB.out _)))
            with_reducible refine wpQuiet_step (fun K hK => ?_); go_simp; with_reducible refine hK _ ?_; clear hK K
            with_reducible refine wpQuiet_step (fun K hK => ?_); go_simp; with_reducible refine hK _ ?_; clear hK K
            with_reducible refine wpQuiet_step (fun K hK => ?_); go_simp; with_reducible refine hK _ ?_; clear hK K
            quiet_step (first | (go_at_call 23; refine Calls.grown_of (HBC.out _)))
            with_reducible refine wpQuiet_step (fun K hK => ?_); go_simp; with_reducible refine hK _ ?_; clear hK K
            with_reducible refine wpQuiet_step (fun K hK => ?_); go_simp; with_reducible refine hK _ ?_; clear hK K
            with_reducible refine wpQuiet_step (fun K hK => ?_); with_reducible refine struck_if (by kernel_rfl) ?_; go_simp; with_reducible refine hK _ ?_; clear hK K
            with_reducible refine wpQuiet_step (fun K hK => ?_); with_reducible refine struck_if (by kernel_rfl) ?_; go_simp; with_reducible refine hK _ ?_; clear hK K
            with_reducible refine wpQuiet_step (fun K hK => ?_); with_reducible refine struck_if (by kernel_rfl) ?_; go_simp; with_reducible refine hK _ ?_; clear hK K
            with_reducible refine wpQuiet_step (fun K hK => ?_); with_reducible refine struck_if (by kernel_rfl) ?_; go_simp; with_reducible refine hK _ ?_; clear hK K
            with_reducible refine wpQuiet_step (fun K hK => ?_); go_simp; with_reducible refine hK _ ?_; clear hK K
            with_reducible refine wpQuiet_step (fun K hK => ?_); go_simp; with_reducible refine hK _ ?_; clear hK K
            with_reducible refine wpQuiet_nil ?_
            intro _ hw'
            obtain ⟨⟨nq, osq⟩, hw''⟩ := hw'
            subst hw''
            go_wp2_with fail
            go_meet
            case rel => exact ⟨rfl, below_growN (Below.refl _ _) (Nat.le_refl _) _ _⟩
        · obtain rfl : s = true := HTR.out rfl rfl
          as_aux_lemma =>
            obtain ⟨l1, l2, l3, l4, l5, l6⟩ := HLS.out
            refine wp_region_quiet_grown mixed (by kernel_rfl) ?_
            with_reducible refine wpQuiet_step (fun K hK => ?_); go_simp; with_reducible refine hK _ ?_; clear hK K
            with_reducible refine wpQuiet_step (fun K hK => ?_); go_simp; with_reducible refine hK _ ?_; clear hK K
            quiet_step (first | (go_at_call 23; refine Calls.grown_of (HAB.out _)))
            with_reducible refine wpQuiet_step (fun K hK => ?_); go_simp; with_reducible refine hK _ ?_; clear hK K
            with_reducible refine wpQuiet_step (fun K hK => ?_); go_simp; with_reducible refine hK _ ?_; clear hK K
            quiet_step (first | (go_at_call 24; refine Calls.grown_of (HRAB.out _)))
            with_reducible refine wpQuiet_step (fun K hK => ?_); go_simp; with_reducible refine hK _ ?_; clear hK K
            with_reducible refine wpQuiet_step (fun K hK => ?_); go_simp; with_reducible refine hK _ ?_; clear hK K
            with_reducible refine wpQuiet_step (fun K hK => ?_); go_simp; with_reducible refine hK _ ?_; clear hK K
            with_reducible refine wpQuiet_step (fun K hK => ?_); go_simp; with_reducible refine hK _ ?_; clear hK K
            quiet_step (first | (go_at_call 23; refine Calls.grown_of (HAA.out _)))
            with_reducible refine wpQuiet_step (fun K hK => ?_); go_simp; with_reducible refine hK _ ?_; clear hK K
            with_reducible refine wpQuiet_step (fun K hK => ?_); go_simp; with_reducible refine hK _ ?_; clear hK K
            with_reducible refine wpQuiet_step (fun K hK => ?_); go_simp; with_reducible refine hK _ ?_; clear hK K
            with_reducible refine wpQuiet_step (fun K hK => ?_); go_simp; with_reducible refine hK _ ?_; clear hK K
            with_reducible refine wpQuiet_step (fun K hK => ?_); go_simp; with_reducible refine hK _ ?_; clear hK K
            with_reducible refine wpQuiet_step (fun K hK => ?_); go_simp; with_reducible refine hK _ ?_; clear hK K
            with_reducible refine wpQuiet_step (fun K hK => ?_); go_simp; with_reducible refine hK _ ?_; clear hK K
            with_reducible refine wpQuiet_step (fun K hK => ?_); go_simp; with_reducible refine hK _ ?_; clear hK K
            quiet_step (first | (go_at_call 23; refine Calls.grown_of (HAB.out _)))
            with_reducible refine wpQuiet_step (fun K hK => ?_); go_simp; with_reducible refine hK _ ?_; clear hK K
            with_reducible refine wpQuiet_step (fun K hK => ?_); go_simp; with_reducible refine hK _ ?_; clear hK K
            quiet_step (first | (go_at_call 23; refine Calls.grown_of (HBA.out _)))
            with_reducible refine wpQuiet_step (fun K hK => ?_); go_simp; with_reducible refine hK _ ?_; clear hK K
            with_reducible refine wpQuiet_step (fun K hK => ?_); go_simp; with_reducible refine hK _ ?_; clear hK K
            with_reducible refine wpQuiet_step (fun K hK => ?_); go_simp; with_reducible refine hK _ ?_; clear hK K
            with_reducible refine wpQuiet_step (fun K hK => ?_); go_simp; with_reducible refine hK _ ?_; clear hK K
            with_reducible refine wpQuiet_step (fun K hK => ?_); go_simp; with_reducible refine hK _ ?_; clear hK K
            with_reducible refine wpQuiet_step (fun K hK => ?_); go_simp; with_reducible refine hK _ ?_; clear hK K
            quiet_step (first | (go_at_call 23; refine Calls.grown_of (HAB.out _)))
            with_reducible refine wpQuiet_step (fun K hK => ?_); go_simp; with_reducible refine hK _ ?_; clear hK K
            with_reducible refine wpQuiet_step (fun K hK => ?_); go_simp; with_reducible refine hK _ ?_; clear hK K
            with_reducible refine wpQuiet_step (fun K hK => ?_); go_simp; with_reducible refine hK _ ?_; clear hK K
            quiet_step (first | (go_at_call 23; refine Calls.grown_of (HBC.out _)))
            with_reducible refine wpQuiet_step (fun K hK => ?_); go_simp; with_reducible refine hK _ ?_; clear hK K
            with_reducible refine wpQuiet_step (fun K hK => ?_); go_simp; with_reducible refine hK _ ?_; clear hK K
            with_reducible refine wpQuiet_step (fun K hK => ?_); go_simp; with_reducible refine hK _ ?_; clear hK K
            with_reducible refine wpQuiet_step (fun K hK => ?_); go_simp; with_reducible refine hK _ ?_; clear hK K
            quiet_step (first | (go_at_call 23; refine Calls.grown_of (HAC.out _)))
            with_reducible refine wpQuiet_step (fun K hK => ?_); go_simp; with_reducible refine hK _ ?_; clear hK K
            with_reducible refine wpQuiet_step (fun K hK => ?_); go_simp; with_reducible refine hK _ ?_; clear hK K
            with_reducible refine wpQuiet_step (fun K hK => ?_); go_simp; with_reducible refine hK _ ?_; clear hK K
            with_reducible refine wpQuiet_nil ?_
            intro _ hw'
            obtain ⟨⟨nq, osq⟩, hw''⟩ := hw'
            subst hw''
            go_wp2_with fail
            go_meet
            case rel => exact ⟨rfl, below_growN (Below.refl _ _) (Nat.le_refl _) _ _⟩
  case rest =>
    obtain ⟨rfl, hb⟩ := hcut
    have HWC := Lib.hid (HB0.out.trans (hb.mono HB0.out.size))
    have HQ0 := Lib.hid ((HARG.out.keep hb).cut 60 (by decide))
    have hql : (ps.take 60).length = min ps.length 60 := by rw [List.length_take, Nat.min_comm]
    have hm : min (ps.length : Int) 60 = ((min ps.length 60 : Nat) : Int) := by omega
    have hmle : min ps.length 60 ≤ ps.length := Nat.min_le_left _ _
    have hm60 : min ps.length 60 ≤ 60 := Nat.min_le_right _ _
    have hor : min ps.length 60 = ps.length ∨ min ps.length 60 = 60 := by omega
    clear HARG hb HAB HBA HAA HBC HAC HRAB HD HTR HLS HC HDR HB0 HW0 hsz mixed
    generalize ps.take 60 = qs at *
    generalize ps.length = n at *
    generalize min n 60 = m at *
    have HL := Lib.hid hql
    obtain ⟨A', c', hv, hc3, hc4, hc5, hat⟩ := HQ0.out
    injection hv with e1 e2 e3
    subst e1 e3
    have HAT := Lib.hid hat
    clear hat e2 hql
    have hmc : (m : Int) ≤ (k0 : Int) := by omega
    have hm0 : (0 : Int) ≤ (m : Int) := by omega
    have hn60 : n ≤ 9223372036854775807 := by omega
    go_wp2_with fail
    go_loopg [9, 10] m (fun gg s9 s10 wr => ∃ i : Nat, i ≤ m ∧ gg = m - i ∧ s10 = .int .i64 i ∧ RowKit.Below wc.heap.size wc wr ∧ SpansAt wr s9 (sortT (qs.take i)))
    case atStart => exact ⟨0, Nat.zero_le _, by omega, rfl, Below.refl _ _, SpansAt.nil _⟩
    case round =>
      obtain ⟨i, him, hgg, rfl, hbw, hsp⟩ := hrel
      have HG := Lib.hid hgg
      have HB := Lib.hid hbw
      have HS := Lib.hid hsp
      have hsz := hbw.size
      clear hgg hbw hsp
      by_cases hlt : i < m
      · have hltz : (i : Int) < (n : Int) := by omega
        have hl6 : (i : Int) < 60 := by omega
        have d1 : decide ((i : Int) < (n : Int)) = true := decide_eq_true hltz
        have d2 : decide ((i : Int) < 60) = true := decide_eq_true hl6
        obtain ⟨y, hy⟩ := ex_at (xs := qs) (k := i) (by rw [HL.out]; exact hlt)
        obtain ⟨b, off, hA, hbl, hcell⟩ := HAT.out (by rw [HL.out]; omega)
        subst hA
        obtain ⟨c1', c2'⟩ := (hcell i y hy).keep HB.out hbl
        have HC := Lib.hid (HPU.out _ _ y _ HS.out (by rw [sortT_length, List.length_take]; omega))
        have HE : Hid (putT y (sortT (sortT (qs.take i))) = sortT (qs.take (i + 1))) := by
          show _ = _
          rw [sortT_self (sortT_sorted _), take_succ_of hy, sortT_snoc]
        have HLL := Lib.hid (show (sortT (qs.take (i + 1))).length ≤ 100000 by rw [sortT_length, List.length_take]; omega)
        obtain ⟨y1, y2⟩ := y
        simp only at c1' c2' HC
        clear hcell hy
        go_wp2_with (go_at_call 19; refine HC.out.mono ?_; rintro e w' ⟨v', rfl, hown, hb⟩)
        rw [HE.out] at hown
        have HS2 := Lib.hid (spans_of_own hown HLL.out)
        have HB2 := Lib.hid (HB.out.trans (hb.mono hsz))
        clear hown hb
        go_wp2
        go_roundg (m - (i + 1))
        case measure => have := HG.out; omega
        case rel => exact ⟨i + 1, by omega, rfl, by go_num, HB2.out, HS2.out⟩
      · have hie : i = m := by omega
        subst hie
        rw [List.take_of_length_le (by rw [HL.out]; exact Nat.le_refl _)] at HS
        have HQ1 := Lib.hid (HQ0.out.keep HB.out)
        have HBW := Lib.hid (HWC.out.trans (HB.out.mono HWC.out.size))
        clear HQ0 HAT
        have hcase : (i : Int) < (n : Int) ∧ ¬ (i : Int) < 60 ∨ ¬ (i : Int) < (n : Int) := by omega
        rcases hcase with ⟨hz1, hz2⟩ | hz1
        · have d1 : decide ((i : Int) < (n : Int)) = true := decide_eq_true hz1
          have d2 : decide ((i : Int) < 60) = false := decide_eq_false hz2
          go_wp2_with fail
          refine (HSO.out _ _ _ HQ1.out).mono ?_
          rintro e w5 ⟨v5, rfl, hown5, hb5⟩
          have HP5 := Lib.hid (spans_of_own hown5 (by rw [sortT_length, HL.out]; omega))
          have HS5 := Lib.hid (HS.out.keep hb5)
          replace HBW := Lib.hid (HBW.out.trans (hb5.mono HBW.out.size))
          clear hown5 hb5
          go_wp2_with fail
          refine (HSA.out _ _ _ _ HS5.out HP5.out).mono ?_
          rintro e w6 ⟨rfl, hb6⟩
          replace HBW := Lib.hid (HBW.out.trans (hb6.mono HBW.out.size))
          clear hb6
          go_wp2_with fail
          refine (HAW.out _).mono ?_
          rintro e w7 ⟨rfl, hb7⟩
          replace HBW := Lib.hid (HBW.out.trans (hb7.mono HBW.out.size))
          clear hb7
          go_wp2
          go_ret
          exact ⟨rfl, HBW.out⟩
        · have d1 : decide ((i : Int) < (n : Int)) = false := decide_eq_false hz1
          go_wp2_with fail
          refine (HSO.out _ _ _ HQ1.out).mono ?_
          rintro e w5 ⟨v5, rfl, hown5, hb5⟩
          have HP5 := Lib.hid (spans_of_own hown5 (by rw [sortT_length, HL.out]; omega))
          have HS5 := Lib.hid (HS.out.keep hb5)
          replace HBW := Lib.hid (HBW.out.trans (hb5.mono HBW.out.size))
          clear hown5 hb5
          go_wp2_with fail
          refine (HSA.out _ _ _ _ HS5.out HP5.out).mono ?_
          rintro e w6 ⟨rfl, hb6⟩
          replace HBW := Lib.hid (HBW.out.trans (hb6.mono HBW.out.size))
          clear hb6
          go_wp2_with fail
          refine (HAW.out _).mono ?_
          rintro e w7 ⟨rfl, hb7⟩
          replace HBW := Lib.hid (HBW.out.trans (hb7.mono HBW.out.size))
          clear hb7
          go_wp2
          go_ret
          exact ⟨rfl, HBW.out⟩
end Go.Proofs.Ytiikddemjjikfaa
