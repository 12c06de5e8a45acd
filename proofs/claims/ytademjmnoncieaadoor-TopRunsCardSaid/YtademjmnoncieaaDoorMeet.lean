/-
  Meet, Gaps and Less of the program.
  Conditions: none beyond what the slices read as.
-/
import Derived.Test.YtademjmnoncieaaDoorNorm
set_option linter.unusedVariables false
namespace Go.Proofs.YtademjmnoncieaaDoor
open Go.RowKit

/-- A slice with a first span: where it lies, and the slice behind it. -/
theorem spans_first {W : World} {v : Value} {p : Sp} {ps : List Sp} (h : SpansAt W v (p :: ps)) :
    ∃ b o c, v = .slice (some ⟨b, o, none⟩) (ps.length + 1) c ∧ ps.length + 1 ≤ c ∧ c ≤ 9223372036854775807 ∧ ps.length + 1 ≤ 100000 ∧ b < W.heap.size ∧ PairAt W b o p ∧
      ∀ W', Below W.heap.size W W' → (c = 1 → SpansAt W' (.slice (some ⟨b, o, none⟩) 0 0) ps) ∧ SpansAt W' (.slice (some ⟨b, o + 2, none⟩) ps.length (c - 1)) ps := by
  have h0 := h
  obtain ⟨A, c, h1, h2, h3, h4, h5⟩ := h
  simp only [List.length_cons] at h1 h2 h3 h5
  obtain ⟨b, o, e, hbl, hcell⟩ := h5 (by omega)
  subst e
  subst h1
  refine ⟨b, o, c, rfl, h2, h4, h3, hbl, by simpa using hcell 0 p rfl, fun W' hb => ⟨fun hc => ?_, ?_⟩⟩
  · have : ps = [] := List.eq_nil_of_length_eq_zero (by omega)
    subst this
    exact ⟨_, _, rfl, by simp, by simp, by simp, fun h => absurd h (by simp)⟩
  · have := (h0.keep hb).tail
    simpa using this

theorem spans_form {W : World} {v : Value} {ps : List Sp} (h : SpansAt W v ps) : ∃ A c, v = .slice A ps.length c := by
  obtain ⟨A, c, h, _⟩ := h
  exact ⟨A, c, h⟩

def MeetRel (a b : List Sp) (base : Nat) (w2 : World) (g : Nat) (s0 s1 s5 : Value) (wr : World) : Prop :=
  ∃ a' b' row, g = a'.length + b'.length ∧ SpansAt w2 s0 a' ∧ SpansAt w2 s1 b' ∧ row ++ meetT a' b' = meetT a b ∧ Below w2.heap.size w2 wr ∧ wr.ownsRow w2.heap.size 27 2 s5 row.length (spansCells row)
end Go.Proofs.YtademjmnoncieaaDoor
