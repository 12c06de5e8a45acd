/-
  The page's plan.
  Conditions: none.
-/
import Derived.Test.YtpjmdnhoiobedaaSteps
set_option linter.unusedVariables false
namespace Go.Proofs.Ytpjmdnhoiobedaa
open Go.RowKit

def exPs : List Pc := [⟨0, 1⟩, ⟨1, 6⟩]
def exL : List Pl := [⟨1, 3, 0, []⟩, ⟨2, 3, 0, exPs⟩]
theorem exL_light : LightL exL := by
  refine ⟨by decide, fun x hx => ?_⟩
  simp only [exL, List.mem_cons, List.not_mem_nil, or_false] at hx
  rcases hx with rfl | rfl
  · refine ⟨⟨⟨by decide, by decide⟩, ⟨by decide, by decide⟩, ⟨by decide, by decide⟩, fun y hy => by cases hy⟩, by decide⟩
  · refine ⟨⟨⟨by decide, by decide⟩, ⟨by decide, by decide⟩, ⟨by decide, by decide⟩, fun y hy => ?_⟩, by decide⟩
    simp only [exPs, List.mem_cons, List.not_mem_nil, or_false] at hy
    rcases hy with rfl | rfl <;> exact ⟨⟨by decide, by decide⟩, by decide⟩
theorem exL_shares : Shares exL := by
  intro x hx
  simp only [exL, List.mem_cons, List.not_mem_nil, or_false] at hx
  rcases hx with rfl | rfl <;> exact ⟨by decide, by decide⟩
theorem exL_right : Right 4 3 exL where
  f2 := by decide
  f64 := by decide
  m0 := by decide
  m16 := by decide
  place := by
    intro x hx
    simp only [exL, List.mem_cons, List.not_mem_nil, or_false] at hx
    rcases hx with rfl | rfl
    · exact ⟨by decide +kernel, by decide, by decide, fun _ => by decide +kernel, fun h => absurd rfl h⟩
    · refine ⟨by decide +kernel, by decide, by decide, fun h => (by cases h), fun _ => ⟨rfl, by decide, ⟨by decide +kernel, by decide, by decide, by decide +kernel, by decide, by decide, trivial⟩, ?_, by decide +kernel⟩⟩
      show ∀ t, t < 64 → nAny exPs t ≤ 1 ∧ (0 < nAny exPs t → (t : Int) < 4)
      decide +kernel
  asc := by
    intro i x y hx hy
    have h : i + 1 < exL.length := (List.getElem?_eq_some_iff.1 hy).1
    have h0 : i = 0 := by simp [exL] at h; omega
    subst h0
    simp [exL] at hx hy
    subst hx
    subst hy
    decide
  apart := by decide +kernel
  few := by decide +kernel
  load := by decide +kernel
theorem exL_splits : splitsN exL = 1 := by decide +kernel
theorem exL_win : winN (pcsOf exL) 1 = 6 := by decide +kernel
theorem exL_has : hasC 3 1 = true := by decide +kernel
theorem no_zero : ¬ Right 0 0 [] := fun h => by have := h.f2; omega

/-- What a call answers: this plan, its places in blocks of F. -/
def RetPn (F : Nat → Prop) (f : Int) (m : Nat) (l : List Pl) (w : World) (e : Ending) (w' : World) : Prop := ∃ v, e = .returned (planA f m v) ∧ PlsIn F w' v l ∧ Below w.heap.size w w'
/-- The page's places, as its cells lie. -/
theorem ex_pls {W : World} {Q R : Nat} (hQ : W.heap[Q]? = some (.cells #[.int .i64 0, .int .u64 1, .int .i64 1, .int .u64 6] 61 (0, 0)))
    (hR : W.heap[R]? = some (.cells #[.int .i64 1, .int .i64 3, .int .i64 0, .slice none 0 0, .int .i64 2, .int .i64 3, .int .i64 0, .slice (some ⟨Q, 0, none⟩) 2 2] 56 (0, 0))) (F : Nat → Prop) (hFQ : F Q) (hFR : F R) :
    PlsIn F W (.slice (some ⟨R, 0, none⟩) 2 2) exL := by
  have lQ := heap_lt hQ
  have lR := heap_lt hR
  have hps : PcsIn F W (.slice (some ⟨Q, 0, none⟩) 2 2) exPs := by
    refine ⟨_, 2, rfl, by decide, by decide, fun _ => ⟨Q, 0, rfl, lQ, hFQ, fun j y hy => ?_⟩⟩
    have h : j < exPs.length := (List.getElem?_eq_some_iff.1 hy).1
    have hj : j = 0 ∨ j = 1 := by simp [exPs] at h; omega
    rcases hj with rfl | rfl
    · cases hy
      exact ⟨by simp [World.cell?, hQ], by simp [World.cell?, hQ]⟩
    · cases hy
      exact ⟨by simp [World.cell?, hQ], by simp [World.cell?, hQ]⟩
  refine ⟨[(.slice none 0 0, ⟨1, 3, 0, []⟩), (.slice (some ⟨Q, 0, none⟩) 2 2, ⟨2, 3, 0, exPs⟩)], rfl, _, 2, rfl, Nat.le_refl 2, by decide, fun _ => ⟨R, 0, rfl, lR, hFR, fun j p hp => ?_⟩, fun p hp => ?_⟩
  · have h := (List.getElem?_eq_some_iff.1 hp).1
    have hj : j = 0 ∨ j = 1 := by simp at h; omega
    rcases hj with rfl | rfl
    · cases hp
      exact ⟨by simp [World.cell?, hR], by simp [World.cell?, hR], by simp [World.cell?, hR], by simp [World.cell?, hR]⟩
    · cases hp
      exact ⟨by simp [World.cell?, hR], by simp [World.cell?, hR], by simp [World.cell?, hR], by simp [World.cell?, hR]⟩
  · simp only [List.mem_cons, List.not_mem_nil, or_false] at hp
    rcases hp with rfl | rfl
    · exact PcsIn.nil _ _
    · exact hps
end Go.Proofs.Ytpjmdnhoiobedaa
