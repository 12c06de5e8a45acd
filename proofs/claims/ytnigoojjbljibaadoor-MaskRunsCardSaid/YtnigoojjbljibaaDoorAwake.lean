/-
  The page's examples, run.
  Conditions: the table of math/bits is as start-up lays it.
-/
import Derived.Test.YtnigoojjbljibaaDoorRuns
import Derived.Test.YtnigoojjbljibaaDoorOf
import Derived.Test.YtnigoojjbljibaaDoorPairEq
set_option linter.unusedVariables false
namespace Go.Proofs.YtnigoojjbljibaaDoor
open Go.RowKit

/-- What a law comes to. -/
def Ans (w : World) (e : Ending) (w' : World) : Prop := e = .returned (.bool true) ∧ Below w.heap.size w w'

theorem built (W : World) (xs : List Int) (cs : Array Value) (h : cs = rowOf xs) (hl : xs.length ≤ 9223372036854775807) : IntsAt (W.alloc (.cells cs 3)) (.slice (some ⟨W.heap.size, 0, none⟩) xs.length xs.length) xs := by
  subst h
  exact (RowAt.new W xs).ints hl _

theorem ex_of (xs : List Int) (z : Int) (W : World) (v : Value) (hv : IntsAt W v xs) (h : (ofI xs : Int) = z) : Calls Tryd.prog 18 #[v] W (Ret (.int .u64 z) W) := by
  subst h
  exact of_any xs v W hv
theorem ex_runs (z : Int) (hz : z = 38) (W : World) (hT : Tab W) : Calls Tryd.prog 30 #[.int .u64 z] W (RetP [(1, 3), (5, 6)] W) := by
  subst hz
  have h := runs_any 38 W (by decide) hT
  rw [show runsT 38 64 = [(1, 3), (5, 6)] by decide +kernel] at h
  exact h
theorem ex_round (z : Int) (hz : z = 771) (W : World) : Calls Tryd.prog 20 #[.int .i64 10, .int .i64 8, .int .i64 4] W (RetB (.int .u64 z) W) := by
  subst hz
  have h := round_any 10 8 4 W
  rw [show ((roundN (frN 10) (frN 4) (modN 8 (frN 10)) : Nat) : Int) = 771 by decide +kernel] at h
  exact h
theorem ex_lowest (z y : Int) (hz : z = 82) (hy : y = 18) (W : World) : Calls Tryd.prog 26 #[.int .u64 z, .int .i64 2] W (Ret (.int .u64 y) W) := by
  subst hz hy
  have h := lowest_any 82 2 W (by decide)
  rw [show ((lowN 82 (takN 82 2) : Nat) : Int) = 18 by decide +kernel] at h
  exact h

set_option maxRecDepth 100000 in
set_option maxHeartbeats 1000000 in
theorem awake_any (w : World) (hT : Tab w) : Calls Tryd.prog 8 #[] w (Ans w) := by
  obtain ⟨z1, hz1⟩ : ∃ z : Int, z = 38 := ⟨_, rfl⟩
  obtain ⟨z2, hz2⟩ : ∃ z : Int, z = 771 := ⟨_, rfl⟩
  obtain ⟨z3, hz3⟩ : ∃ z : Int, z = 82 := ⟨_, rfl⟩
  obtain ⟨z4, hz4⟩ : ∃ z : Int, z = 18 := ⟨_, rfl⟩
  have al := Lib.hid (fun (W : World) (o : Obj) => (Below.refl W.heap.size W).alloc (Nat.le_refl _) o)
  have e1 := Lib.hid (show ∀ W : World, Calls Tryd.prog 18 #[.slice (some ⟨W.heap.size, 0, none⟩) 3 3] (W.alloc (.cells #[.int .i64 1, .int .i64 2, .int .i64 5] 3)) (RetB (.int .u64 z1) W) from fun W => (ex_of [1, 2, 5] z1 _ _ (built W [1, 2, 5] #[.int .i64 1, .int .i64 2, .int .i64 5] rfl (by decide)) (by rw [hz1]; decide +kernel)).mono fun e w' h => ⟨h.1, by rw [← h.2]; exact al.out _ _⟩)
  have e2 := Lib.hid (show ∀ W : World, Calls Tryd.prog 18 #[.slice (some ⟨W.heap.size, 0, none⟩) 4 4] (W.alloc (.cells #[.int .i64 8, .int .i64 9, .int .i64 0, .int .i64 1] 3)) (RetB (.int .u64 z2) W) from fun W => (ex_of [8, 9, 0, 1] z2 _ _ (built W [8, 9, 0, 1] #[.int .i64 8, .int .i64 9, .int .i64 0, .int .i64 1] rfl (by decide)) (by rw [hz2]; decide +kernel)).mono fun e w' h => ⟨h.1, by rw [← h.2]; exact al.out _ _⟩)
  have e3 := Lib.hid (show ∀ W : World, Calls Tryd.prog 18 #[.slice (some ⟨W.heap.size, 0, none⟩) 3 3] (W.alloc (.cells #[.int .i64 1, .int .i64 4, .int .i64 6] 3)) (RetB (.int .u64 z3) W) from fun W => (ex_of [1, 4, 6] z3 _ _ (built W [1, 4, 6] #[.int .i64 1, .int .i64 4, .int .i64 6] rfl (by decide)) (by rw [hz3]; decide +kernel)).mono fun e w' h => ⟨h.1, by rw [← h.2]; exact al.out _ _⟩)
  have e4 := Lib.hid (show ∀ W : World, Calls Tryd.prog 18 #[.slice (some ⟨W.heap.size, 0, none⟩) 2 2] (W.alloc (.cells #[.int .i64 1, .int .i64 4] 3)) (RetB (.int .u64 z4) W) from fun W => (ex_of [1, 4] z4 _ _ (built W [1, 4] #[.int .i64 1, .int .i64 4] rfl (by decide)) (by rw [hz4]; decide +kernel)).mono fun e w' h => ⟨h.1, by rw [← h.2]; exact al.out _ _⟩)
  have HT := Lib.hid hT
  have E1 := Lib.hid (fun W => ex_runs z1 hz1 W)
  have E2 := Lib.hid (fun W => ex_round z2 hz2 W)
  have E3 := Lib.hid (fun W => ex_lowest z3 z4 hz3 hz4 W)
  have E4 : (z4 == 18) = true := by rw [hz4]; rfl
  clear hT hz1 hz2 hz3 hz4
  go_enter Tryd.func8, Tryd.ntmps8
  go_wp2_with fail
  refine (e1.out w).mono ?_
  rintro e w0 ⟨rfl, hb0⟩
  have HB0 := Lib.hid hb0
  clear hb0
  go_wp2_with fail
  refine (E1.out _ (HT.out.later HB0.out)).mono ?_
  rintro e w1 ⟨v, rfl, hp, hb1⟩
  obtain ⟨A, c, rfl, _, hat⟩ := hp
  obtain ⟨b, off, rfl, hbs, hc⟩ := hat (by decide)
  have HB1 := Lib.hid (HB0.out.trans (hb1.mono HB0.out.size))
  have HC := Lib.hid hc
  have HBS := Lib.hid hbs
  clear hb1 hat hc hbs HB0
  go_wp2_with fail
  refine (E2.out _).mono ?_
  rintro e w2 ⟨rfl, hb2⟩
  have HB2 := Lib.hid hb2
  clear hb2
  go_wp2_with fail
  refine (e2.out w2).mono ?_
  rintro e w3 ⟨rfl, hb3⟩
  have HB3 := Lib.hid (HB2.out.trans (hb3.mono HB2.out.size))
  clear hb3 HB2
  go_wp2_with fail
  refine (e3.out w3).mono ?_
  rintro e w4 ⟨rfl, hb4⟩
  have HB4 := Lib.hid (HB3.out.trans (hb4.mono HB3.out.size))
  clear hb4 HB3
  go_wp2_with fail
  refine (E3.out _).mono ?_
  rintro e w4 ⟨rfl, rfl⟩
  go_wp2_with fail
  refine (e4.out w4).mono ?_
  rintro e w5 ⟨rfl, hb5⟩
  have HB5 := Lib.hid (HB4.out.trans (hb5.mono HB4.out.size))
  clear hb5 HB4
  have r0 : w5.cell? ⟨b, off, none⟩ = some (.int .i64 1) := (HB5.out.cell (p := ⟨b, off, none⟩) HBS.out).trans (HC.out 0 (1, 3) rfl).1
  have r1 : w5.cell? ⟨b, off + 1, none⟩ = some (.int .i64 3) := (HB5.out.cell (p := ⟨b, off + 1, none⟩) HBS.out).trans (HC.out 0 (1, 3) rfl).2
  have r2 : w5.cell? ⟨b, off + 2, none⟩ = some (.int .i64 5) := (HB5.out.cell (p := ⟨b, off + 2, none⟩) HBS.out).trans (HC.out 1 (5, 6) rfl).1
  have r3 : w5.cell? ⟨b, off + 3, none⟩ = some (.int .i64 6) := (HB5.out.cell (p := ⟨b, off + 3, none⟩) HBS.out).trans (HC.out 1 (5, 6) rfl).2
  have q1 := eq_pair w5 9998 1 3 1 3
  have q2 := eq_pair w5 9998 5 6 5 6
  go_wp2_with fail
  refine (e4.out w5).mono ?_
  rintro e w6 ⟨rfl, hb6⟩
  have HB6 := Lib.hid (HB5.out.trans (hb6.mono HB5.out.size))
  go_wp2_with fail
  go_ret
  exact ⟨rfl, HB1.out.trans (HB6.out.mono HB1.out.size)⟩
end Go.Proofs.YtnigoojjbljibaaDoor
