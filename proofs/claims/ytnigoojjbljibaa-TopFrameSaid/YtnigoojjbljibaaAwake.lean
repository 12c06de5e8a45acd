/-
  The page's examples, run.
  Conditions: none.
-/
import Derived.Test.YtnigoojjbljibaaLargest
set_option linter.unusedVariables false
namespace Go.Proofs.Ytnigoojjbljibaa
open Go.RowKit

/-- What a law comes to. -/
def Ans (w : World) (e : Ending) (w' : World) : Prop := e = .returned (.bool true) ∧ Below w.heap.size w w'

theorem right_of {ws : List Int} (h : ws.length ≤ 64) (h1 : ws.all (fun x => decide (0 ≤ x ∧ x ≤ 1000)) = true) (h2 : 0 < sumL ws) : Right ws :=
  ⟨h, fun x hx => of_decide_eq_true (List.all_eq_true.1 h1 x hx), h2⟩

theorem largest_111 {l : List Int} (h : IsLargest 10 [1, 1, 1] l) : l = [4, 3, 3] := by
  obtain ⟨d, k, hk, hd, rfl⟩ := h
  have hq : qs 10 [1, 1, 1] = [3, 3, 3] := by decide +kernel
  have hr : rs 10 [1, 1, 1] = [1, 1, 1] := by decide +kernel
  rw [hq] at hk ⊢
  have hk1 : k = 1 := by
    have : sumL [3, 3, 3] = 9 := by decide
    omega
  subst hk1
  obtain ⟨t, hi⟩ := hd.inv
  have b1 := hd.2 0 1 (Nat.le_refl _) (by decide) (by decide)
  have b2 := hd.2 1 2 (by decide) (by decide) (by decide)
  have n0 := hi.dn 0 (by decide)
  have n1 := hi.dn 1 (by decide)
  have n2 := hi.dn 2 (by decide)
  have key : ∀ i, i < 3 → (rs 10 [1, 1, 1]).getD i 0 = 1 := by
    intro i hi
    rw [hr]
    rcases (show i = 0 ∨ i = 1 ∨ i = 2 by omega) with rfl | rfl | rfl <;> rfl
  have n0' : d 0 < 3 := n0
  have n1' : d 1 < 3 := n1
  have n2' : d 2 < 3 := n2
  unfold bef at b1 b2
  simp only [key _ n0', key _ n1', key _ n2'] at b1 b2
  have e : d 0 = 0 := by omega
  show ad [3, 3, 3] d 1 = _
  rw [ad, ad, e]
  rfl

/-- A list that a call answers. -/
def Has (xs : List Int) (err : Int) (w : World) (e : Ending) (w' : World) : Prop := ∃ v, e = .returned (.tuple #[v, .int .i64 err]) ∧ IntsAt w' v xs ∧ Below w.heap.size w w'

theorem ex_largest (W : World) (v : Value) (hv : IntsAt W v [1, 1, 1]) : Calls Try.prog 4 #[.int .i64 10, v] W (RetIE [4, 3, 3] 0 W) :=
  (largest_ok 10 [1, 1, 1] v W hv ⟨by decide, by decide, right_of (by decide) (by decide) (by decide)⟩).mono fun e w' ⟨u, l, he, hl, hi, hb⟩ => by
    rw [largest_111 hl] at hi
    exact ⟨u, he, hi, hb⟩
theorem ex_same (xs : List Int) (W : World) (u v : Value) (hu : IntsAt W u xs) (hv : IntsAt W v xs) : Calls Try.prog 13 #[u, v] W (RetB (.bool true) W) := by
  have h := same_any xs xs u v W hu hv
  rw [decide_eq_true rfl] at h
  exact h
theorem ex_check (W : World) : Calls Try.prog 17 #[.slice none 0 0] W (Ret (.int .i64 1) W) := by
  have h := check_any [] _ W (IntsAt.nil W)
  rw [chk_bad (fun hr => by have := hr.pos; simp at this)] at h
  exact h

theorem built (W : World) (xs : List Int) (cs : Array Value) (h : cs = rowOf xs) (hl : xs.length ≤ 9223372036854775807) : IntsAt (W.alloc (.cells cs 3)) (.slice (some ⟨W.heap.size, 0, none⟩) xs.length xs.length) xs := by
  subst h
  exact (RowAt.new W xs).ints hl _
end Go.Proofs.Ytnigoojjbljibaa
