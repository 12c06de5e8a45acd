/-
  The page's examples, run.
  Conditions: none.
-/
import Derived.Test.YtbmdbjecjiolpaaLargest
set_option linter.unusedVariables false
namespace Go.Proofs.Ytbmdbjecjiolpaa
open Go.RowKit

/-- What a law comes to. -/
def Ans (w : World) (e : Ending) (w' : World) : Prop := e = .returned (.bool true) ∧ Below w.heap.size w w'

theorem right_of {ws : List Int} (h : ws.length ≤ 64) (h1 : ws.all (fun x => decide (0 ≤ x ∧ x ≤ 1000)) = true) (h2 : 0 < sumL ws) : Right ws :=
  ⟨h, fun x hx => of_decide_eq_true (List.all_eq_true.1 h1 x hx), h2⟩

theorem largest_111 {l : List Int} (h : IsLargest 10 [1, 1, 1] l) : l = [4, 3, 3] := by
  obtain ⟨d, k, hk, hd, rfl⟩ := h
  have hq : qs 10 [1, 1, 1] = [3, 3, 3] := by decide +kernel
  have hr : rs 10 [1, 1, 1] = [1, 1, 1] := by decide +kernel
  rw [hq] at hk ⊢
  have hk1 : k = 1 := by
    have : sumL [3, 3, 3] = 9 := by decide
    omega
  subst hk1
  obtain ⟨t, hi⟩ := hd.inv
  have b1 := hd.2 0 1 (Nat.le_refl _) (by decide) (by decide)
  have b2 := hd.2 1 2 (by decide) (by decide) (by decide)
  have n0 := hi.dn 0 (by decide)
  have n1 := hi.dn 1 (by decide)
  have n2 := hi.dn 2 (by decide)
  have key : ∀ i, i < 3 → (rs 10 [1, 1, 1]).getD i 0 = 1 := by
    intro i hi
    rw [hr]
    rcases (show i = 0 ∨ i = 1 ∨ i = 2 by omega) with rfl | rfl | rfl <;> rfl
  have n0' : d 0 < 3 := n0
  have n1' : d 1 < 3 := n1
  have n2' : d 2 < 3 := n2
  unfold bef at b1 b2
  simp only [key _ n0', key _ n1', key _ n2'] at b1 b2
  have e : d 0 = 0 := by omega
  show ad [3, 3, 3] d 1 = _
  rw [ad, ad, e]
  rfl

/-- A list that a call answers. -/
def Has (xs : List Int) (err : Int) (w : World) (e : Ending) (w' : World) : Prop := ∃ v, e = .returned (.tuple #[v, .int .i64 err]) ∧ IntsAt w' v xs ∧ Below w.heap.size w w'

theorem ex_largest (W : World) (v : Value) (hv : IntsAt W v [1, 1, 1]) : Calls Try.prog 9 #[.int .i64 10, v] W (RetIE [4, 3, 3] 0 W) :=
  (largest_ok 10 [1, 1, 1] v W hv ⟨by decide, by decide, right_of (by decide) (by decide) (by decide)⟩).mono fun e w' ⟨u, l, he, hl, hi, hb⟩ => by
    rw [largest_111 hl] at hi
    exact ⟨u, he, hi, hb⟩
theorem ex_seats (W : World) (v : Value) (hv : IntsAt W v [6, 3, 1]) : Calls Try.prog 19 #[.int .i64 10, v] W (RetIE [6, 3, 1] 0 W) := by
  have hr : Right [6, 3, 1] := right_of (by decide) (by decide) (by decide)
  have h := seats_ok 10 [6, 3, 1] v W hv ⟨by decide, by decide, hr⟩
  have e : gr [6, 3, 1] 10 = [6, 3, 1] := by
    rw [gr_qs (T := 10) hr (by decide) (by decide) (by decide +kernel)]
    decide +kernel
  rw [e] at h
  exact h
theorem ex_next (W : World) (u v : Value) (hu : IntsAt W u [2, 1]) (hv : IntsAt W v [1, 0]) : Calls Try.prog 17 #[u, v] W (RetB (.tuple #[.int .i64 0, .bool true]) W) := by
  have h := next_any [2, 1] [1, 0] u v W hu hv
  have e : nextL [2, 1] [1, 0] = some 0 := by decide +kernel
  rw [e] at h
  exact h
theorem ex_same (xs : List Int) (W : World) (u v : Value) (hu : IntsAt W u xs) (hv : IntsAt W v xs) : Calls Try.prog 14 #[u, v] W (RetB (.bool true) W) := by
  have h := same_any xs xs u v W hu hv
  rw [decide_eq_true rfl] at h
  exact h
theorem ex_check (W : World) : Calls Try.prog 10 #[.slice none 0 0] W (Ret (.int .i64 1) W) := by
  have h := check_any [] _ W (IntsAt.nil W)
  rw [chk_bad (fun hr => by have := hr.pos; simp at this)] at h
  exact h

theorem built (W : World) (xs : List Int) (cs : Array Value) (h : cs = rowOf xs) (hl : xs.length ≤ 9223372036854775807) : IntsAt (W.alloc (.cells cs 3)) (.slice (some ⟨W.heap.size, 0, none⟩) xs.length xs.length) xs := by
  subst h
  exact (RowAt.new W xs).ints hl _

set_option maxRecDepth 100000 in
set_option maxHeartbeats 1000000 in
theorem awake_any (w : World) : Calls Try.prog 13 #[] w (Ans w) := by
  have b1 := Lib.hid (show ∀ W : World, IntsAt (W.alloc (.cells #[.int .i64 1, .int .i64 1, .int .i64 1] 3)) (.slice (some ⟨W.heap.size, 0, none⟩) 3 3) [1, 1, 1] from fun W => built W [1, 1, 1] #[.int .i64 1, .int .i64 1, .int .i64 1] rfl (by decide))
  have b2 := Lib.hid (show ∀ W : World, IntsAt (W.alloc (.cells #[.int .i64 6, .int .i64 3, .int .i64 1] 3)) (.slice (some ⟨W.heap.size, 0, none⟩) 3 3) [6, 3, 1] from fun W => built W [6, 3, 1] #[.int .i64 6, .int .i64 3, .int .i64 1] rfl (by decide))
  have b3 := Lib.hid (show ∀ W : World, IntsAt (W.alloc (.cells #[.int .i64 2, .int .i64 1] 3)) (.slice (some ⟨W.heap.size, 0, none⟩) 2 2) [2, 1] from fun W => built W [2, 1] #[.int .i64 2, .int .i64 1] rfl (by decide))
  have b4 := Lib.hid (show ∀ W : World, IntsAt (W.alloc (.cells #[.int .i64 1, .int .i64 0] 3)) (.slice (some ⟨W.heap.size, 0, none⟩) 2 2) [1, 0] from fun W => built W [1, 0] #[.int .i64 1, .int .i64 0] rfl (by decide))
  have b5 := Lib.hid (show ∀ W : World, IntsAt (W.alloc (.cells #[.int .i64 4, .int .i64 3, .int .i64 3] 3)) (.slice (some ⟨W.heap.size, 0, none⟩) 3 3) [4, 3, 3] from fun W => built W [4, 3, 3] #[.int .i64 4, .int .i64 3, .int .i64 3] rfl (by decide))
  have b4' := Lib.hid (show ∀ (W : World) (o : Obj), IntsAt ((W.alloc o).alloc (.cells #[.int .i64 1, .int .i64 0] 3)) (.slice (some ⟨W.heap.size + 1, 0, none⟩) 2 2) [1, 0] from fun W o => by have := b4.out (W.alloc o); rwa [World.size_alloc] at this)
  have b3' := Lib.hid (show ∀ (W : World) (o : Obj), IntsAt ((W.alloc (.cells #[.int .i64 2, .int .i64 1] 3)).alloc o) (.slice (some ⟨W.heap.size, 0, none⟩) 2 2) [2, 1] from fun W o => (b3.out W).keep ((Below.refl _ _).alloc (Nat.le_refl _) _))
  have al := Lib.hid (fun (W : World) (o : Obj) => (Below.refl W.heap.size W).alloc (Nat.le_refl _) o)
  go_enter Try.func13, Try.ntmps13
  go_wp2_with fail
  refine (ex_largest _ _ (b1.out w)).mono ?_
  rintro e w1 ⟨v1, rfl, hi1, hb1⟩
  have HI1 := Lib.hid hi1
  have HB1 := Lib.hid ((al.out w _).trans (hb1.mono (al.out w _).size))
  clear hi1 hb1
  go_wp2_with fail
  refine (ex_seats _ _ (b2.out w1)).mono ?_
  rintro e w2 ⟨v2, rfl, hi2, hb2⟩
  have HI2 := Lib.hid hi2
  have HB2 := Lib.hid ((al.out w1 _).trans (hb2.mono (al.out w1 _).size))
  have HI1b := Lib.hid (HI1.out.keep HB2.out)
  have HBB2 := Lib.hid (HB1.out.trans (HB2.out.mono HB1.out.size))
  clear hi2 hb2 HI1 HB1 HB2
  go_wp2_with fail
  refine (ex_next _ _ _ (b3'.out w2 _) (b4'.out w2 _)).mono ?_
  rintro e w3 ⟨rfl, hb3⟩
  have HB3 := Lib.hid (((al.out w2 _).trans ((al.out (w2.alloc _) _).mono (al.out w2 _).size)).trans (hb3.mono (((al.out w2 _).trans ((al.out (w2.alloc _) _).mono (al.out w2 _).size))).size))
  have HI1c := Lib.hid (HI1b.out.keep HB3.out)
  have HI2c := Lib.hid (HI2.out.keep HB3.out)
  have HBB3 := Lib.hid (HBB2.out.trans (HB3.out.mono HBB2.out.size))
  clear hb3 HI1b HI2 HBB2 HB3
  go_wp2_with fail
  refine (ex_same [4, 3, 3] _ _ _ (HI1c.out.keep (al.out _ _)) (b5.out w3)).mono ?_
  rintro e w4 ⟨rfl, hb4⟩
  have HB4 := Lib.hid ((al.out w3 _).trans (hb4.mono (al.out w3 _).size))
  have HI2d := Lib.hid (HI2c.out.keep HB4.out)
  have HBB4 := Lib.hid (HBB3.out.trans (HB4.out.mono HBB3.out.size))
  clear hb4 HI2c HI1c HBB3 HB4
  go_wp2_with fail
  refine (ex_same [6, 3, 1] _ _ _ (HI2d.out.keep (al.out _ _)) (b2.out w4)).mono ?_
  rintro e w5 ⟨rfl, hb5⟩
  have HB5 := Lib.hid ((al.out w4 _).trans (hb5.mono (al.out w4 _).size))
  have HBB5 := Lib.hid (HBB4.out.trans (HB5.out.mono HBB4.out.size))
  clear hb5 HI2d HBB4 HB5
  go_wp2_with fail
  refine (ex_check _).mono ?_
  rintro e w6 ⟨rfl, rfl⟩
  go_wp2_with fail
  go_ret
  exact ⟨rfl, HBB5.out⟩
end Go.Proofs.Ytbmdbjecjiolpaa
