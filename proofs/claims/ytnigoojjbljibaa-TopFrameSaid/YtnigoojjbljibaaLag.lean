/-
  Lag: what it answers, for all lists.
  Conditions: none.
-/
import Derived.Test.YtnigoojjbljibaaSeatsOf
set_option linter.unusedVariables false
namespace Go.Proofs.Ytnigoojjbljibaa
open Go.RowKit

theorem sumL_ge0 {xs : List Int} (h : ∀ x ∈ xs, 0 ≤ x) : 0 ≤ sumL xs := by
  unfold sumL
  induction xs with
  | nil => simp
  | cons a l ih =>
    rw [List.sum_cons]
    have := h a (by simp)
    have := ih fun x hx => h x (by simp [hx])
    omega
theorem sumL_le {xs : List Int} {c : Int} (h : ∀ x ∈ xs, x ≤ c) : sumL xs ≤ c * xs.length := by
  unfold sumL
  induction xs with
  | nil => simp
  | cons a l ih =>
    rw [List.sum_cons, List.length_cons]
    have := h a (by simp)
    have := ih fun x hx => h x (by simp [hx])
    have e : c * ((l.length + 1 : Nat) : Int) = c * l.length + c := by rw [Int.natCast_add, Int.mul_add]; simp
    omega

/-- What anybody has: as it may be. -/
def GoodH (hs : List Int) : Prop := ∀ x ∈ hs, 0 ≤ x ∧ x ≤ 1048576
def LagRight (ws hs : List Int) : Prop := Right ws ∧ hs.length = ws.length ∧ GoodH hs
/-- What everybody has too little. -/
def lagL (ws hs : List Int) : List Int := List.zipWith (fun x y => sumL hs * x - y * sumL ws) ws hs
theorem length_lagL {ws hs : List Int} (h : hs.length = ws.length) : (lagL ws hs).length = ws.length := by simp [lagL, h]
theorem lagL_at {ws hs : List Int} {k : Nat} {x y : Int} (hx : ws[k]? = some x) (hy : hs[k]? = some y) : (lagL ws hs)[k]? = some (sumL hs * x - y * sumL ws) := by
  simp [lagL, List.getElem?_zipWith, hx, hy]
theorem sum_zip (A B : Int) : ∀ {ws hs : List Int}, hs.length = ws.length → sumL (List.zipWith (fun x y => A * x - y * B) ws hs) = A * sumL ws - sumL hs * B
  | [], [], _ => by simp [sumL]
  | [], _ :: _, h => by simp at h
  | _ :: _, [], h => by simp at h
  | a :: l, b :: m, h => by
    have ih := sum_zip A B (ws := l) (hs := m) (by simpa using h)
    simp only [sumL, List.zipWith_cons_cons, List.sum_cons] at ih ⊢
    rw [ih, Int.mul_add, Int.add_mul]
    omega
theorem sumL_lagL {ws hs : List Int} (h : hs.length = ws.length) : sumL (lagL ws hs) = 0 := by
  unfold lagL
  rw [sum_zip _ _ h]
  omega
theorem good_small {ws hs : List Int} (h : LagRight ws hs) : Small hs := ⟨by rw [h.2.1]; exact h.1.1, fun x hx => by have := h.2.2 x hx; omega⟩
theorem good_sum {ws hs : List Int} (h : LagRight ws hs) : 0 ≤ sumL hs ∧ sumL hs ≤ 67108864 := by
  refine ⟨sumL_ge0 fun x hx => (h.2.2 x hx).1, ?_⟩
  have := sumL_le fun x hx => (h.2.2 x hx).2
  have h1 := h.1.1
  have h2 := h.2.1
  omega
theorem lag_parts {ws hs : List Int} (h : LagRight ws hs) {x y : Int} (hx : 0 ≤ x ∧ x ≤ 1000) (hy : 0 ≤ y ∧ y ≤ 1048576) :
    (0 ≤ sumL hs * x ∧ sumL hs * x ≤ 67108864000) ∧ 0 ≤ y * sumL ws ∧ y * sumL ws ≤ 67108864000 := by
  obtain ⟨s0, s1⟩ := good_sum h
  obtain ⟨w0, w1⟩ := h.1.sumBound
  refine ⟨⟨Int.mul_nonneg s0 hx.1, ?_⟩, Int.mul_nonneg hy.1 (by omega), ?_⟩
  · have : sumL hs * x ≤ 67108864 * 1000 := Int.mul_le_mul s1 hx.2 hx.1 (by omega)
    omega
  · have : y * sumL ws ≤ 1048576 * 64000 := Int.mul_le_mul hy.2 w1 (by omega) (by omega)
    omega
theorem lag_small {ws hs : List Int} (h : LagRight ws hs) : Small (lagL ws hs) := by
  refine ⟨by rw [length_lagL h.2.1]; exact h.1.1, fun z hz => ?_⟩
  obtain ⟨k, hk, rfl⟩ := List.getElem_of_mem hz
  rw [length_lagL h.2.1] at hk
  obtain ⟨x, hx⟩ := ex_at hk
  obtain ⟨y, hy⟩ := ex_at (xs := hs) (k := k) (by rw [h.2.1]; exact hk)
  have e := lagL_at hx hy
  rw [List.getElem?_eq_getElem (by rw [length_lagL h.2.1]; exact hk)] at e
  injection e with e
  rw [e]
  have := lag_parts h (h.1.at hx) (h.2.2 y (List.mem_of_getElem? hy))
  omega

/-- The first k are as they may be. -/
def InH (xs : List Int) (k : Nat) : Prop := ∀ x ∈ xs.take k, 0 ≤ x ∧ x ≤ 1048576
theorem InH.zero (xs : List Int) : InH xs 0 := fun x hx => by simp at hx
theorem InH.succ {xs : List Int} {k : Nat} {x : Int} (h : InH xs k) (hx : xs[k]? = some x) (h0 : 0 ≤ x) (h1 : x ≤ 1048576) : InH xs (k + 1) := fun y hy => by
  rw [List.take_add_one, hx] at hy
  rcases List.mem_append.1 hy with hy | hy
  · exact h y hy
  · simp at hy; subst hy; exact ⟨h0, h1⟩
theorem InH.all {xs : List Int} {k : Nat} (h : InH xs k) (hk : xs.length ≤ k) : GoodH xs := fun x hx => h x (by rwa [List.take_of_length_le hk])
theorem not_good_at {xs : List Int} {k : Nat} {x : Int} (hx : xs[k]? = some x) (h : x < 0 ∨ 1048576 < x) : ¬ GoodH xs := fun hr => by have := hr x (List.mem_of_getElem? hx); omega

def LagRel (hs : List Int) (i : Value) : Prop := ∃ k : Nat, k ≤ hs.length ∧ i = .int .i64 k ∧ InH hs k

def LagRel2 (ls : List Int) (w : World) (g : Nat) (q : Nat) (s : Value) (wr : World) : Prop :=
  ∃ k : Nat, k ≤ ls.length ∧ q = ls.length - k ∧ s = .int .i64 k ∧ Below w.heap.size w wr ∧ RowAt wr g (fillT ls k)
end Go.Proofs.Ytnigoojjbljibaa
