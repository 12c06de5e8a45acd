/-
  The page's examples come out.
  Conditions: none.
-/
import Derived.Test.YtiikddemjjikfaaRefPut
import Derived.Test.YtiikddemjjikfaaSame
set_option linter.unusedVariables false
namespace Go.Proofs.Ytiikddemjjikfaa
open Go.RowKit

theorem lit_spans (W : World) (ps : List Sp) (t : Nat) (hl : ps.length ≤ 100000) : SpansAt (W.alloc (.cells (spansCells ps).toArray t)) (.slice (some ⟨W.heap.size, 0, none⟩) ps.length ps.length) ps := by
  refine spans_of_own (base := 0) (e := t) ?_ hl
  have := World.ownsRow_lit (base := 0) (e := t) (size := 2) W (spansCells ps).toArray ps.length (Nat.zero_le _) (by unfold maxLen; omega) (by simp [spansCells_length])
  simpa using this
theorem ex_ints : IntsS [(5, 7), (1, 2), (3, 2)] := by
  intro s hs
  simp at hs
  rcases hs with rfl | rfl | rfl <;> exact ⟨by decide, by decide⟩

set_option maxRecDepth 100000 in
set_option maxHeartbeats 4000000 in
theorem awake_any (w : World) : Calls Try.prog 11 #[] w (RetB (.bool true) w) := by
  have HA : Hid (SpansAt (w.alloc (.cells #[.int .i64 3, .int .i64 2, .int .i64 5, .int .i64 7, .int .i64 1, .int .i64 2] 38)) (.slice (some ⟨w.heap.size, 0, none⟩) 3 3) [(3, 2), (5, 7), (1, 2)]) :=
    lit_spans w [(3, 2), (5, 7), (1, 2)] 38 (by decide)
  have HB0 := Lib.hid (show Below w.heap.size w (w.alloc (.cells #[.int .i64 3, .int .i64 2, .int .i64 5, .int .i64 7, .int .i64 1, .int .i64 2] 38)) from (Below.refl _ _).alloc (Nat.le_refl _) _)
  have HK : Hid (∀ W, Calls Try.prog 8 #[.int .i64 1007] W (Ret (.tuple #[.int .i64 7, .bool true, .bool true]) W)) := fun W => kind_any 1007 (by decide) (by decide) W
  go_enter Try.func11, Try.ntmps11
  go_wp2_with fail
  have H1 := Lib.hid (sort_any _ _ _ HA.out)
  rw [ex_sort] at H1
  refine H1.out.mono ?_
  rintro e w1 ⟨v1, rfl, hown1, hb1⟩
  have HP1 := Lib.hid (spans_of_own hown1 (by decide))
  have HB1 := Lib.hid (HB0.out.trans (hb1.mono (by simp)))
  clear hown1 hb1 H1 HA HB0
  go_wp2_with fail
  refine (HK.out _).mono ?_
  rintro e w1' ⟨rfl, rfl⟩
  have H2 := Lib.hid (total_any v1 _ w1 HP1.out ex_ints)
  rw [ex_total] at H2
  have H2' : Hid (Calls Try.prog 12 #[v1] w1 (RetB (.tuple #[.int .i64 11, .int .i64 0]) w1)) := H2.out
  clear H2
  go_wp2_with fail
  refine H2'.out.mono ?_
  rintro e w2 ⟨rfl, hb2⟩
  have HB2 := Lib.hid (HB1.out.trans (hb2.mono HB1.out.size))
  have hL : Below w2.heap.size w2 (w2.alloc (.cells #[.int .i64 5, .int .i64 7, .int .i64 1, .int .i64 2, .int .i64 3, .int .i64 2] 38)) := (Below.refl _ _).alloc (Nat.le_refl _) _
  have H3 := Lib.hid (same_any v1 (.slice (some ⟨w2.heap.size, 0, none⟩) 3 3) [(5, 7), (1, 2), (3, 2)] (w2.alloc (.cells #[.int .i64 5, .int .i64 7, .int .i64 1, .int .i64 2, .int .i64 3, .int .i64 2] 38)) ((HP1.out.keep hb2).keep hL) (lit_spans w2 [(5, 7), (1, 2), (3, 2)] 38 (by decide)))
  have HL := Lib.hid hL
  clear hb2 hL H2'
  go_wp2_with fail
  refine H3.out.mono ?_
  rintro e w3 ⟨rfl, hb3⟩
  have HB3 := Lib.hid (HB2.out.trans ((HL.out.trans (hb3.mono (by simp))).mono HB2.out.size))
  clear hb3 H3 HL
  go_wp2
  go_ret
  exact ⟨rfl, HB3.out⟩
end Go.Proofs.Ytiikddemjjikfaa
