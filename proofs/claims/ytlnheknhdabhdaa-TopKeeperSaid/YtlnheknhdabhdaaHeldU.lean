/-
  A table of uint64 of the call's own, kept through its calls.
  Conditions: none.
-/
import Derived.Test.YtlnheknhdabhdaaTakeU
set_option linter.unusedVariables false
namespace Go.Proofs.Ytlnheknhdabhdaa.TU
open Go.RowKit

/-- A table of the call's own: its blocks from B on. -/
structure Held (B : Nat) (W0 w : World) (tb : Nat) (sv fv : Value) (s : Ts Int) : Prop where
  lies : TabAt w tb sv fv s
  ok : Okay s
  h1 : B ≤ tb
  h2 : ∀ k, sv.ownBlock = some k → B ≤ k
  h3 : ∀ k, fv.ownBlock = some k → B ≤ k
  bel : Below B W0 w
  hB : B ≤ w.heap.size
theorem Held.foot {B : Nat} {W0 w : World} {tb : Nat} {sv fv : Value} {s : Ts Int} (h : Held B W0 w tb sv fv s) {k : Nat} (hk : Foot tb sv fv k) : B ≤ k := by
  rcases hk with rfl | hk | hk
  · exact h.h1
  · exact h.h2 k hk
  · exact h.h3 k hk
theorem Held.mut {B : Nat} {W0 w w' : World} {tb : Nat} {sv fv : Value} {s s' : Ts Int} {v : Value} {e : Ending} (h : Held B W0 w tb sv fv s) (ho : Okay s') (m : MutPost w tb sv fv v s' e w') :
    ∃ sv' fv', e = .returned v ∧ Held B W0 w' tb sv' fv' s' ∧ Apart (Foot tb sv fv) w w' ∧ Grew w sv sv' ∧ Grew w fv fv' := by
  obtain ⟨sv', fv', h1, h2, h3, h4, h5⟩ := m
  refine ⟨sv', fv', h1, ⟨h2, ho, h.h1, fun k hk => ?_, fun k hk => ?_, h.bel.trans (h3.below h.hB (fun k hk hf => by have := h.foot hf; omega)), Nat.le_trans h.hB h3.size⟩, h3, h4, h5⟩
  · rcases h4 k hk with g | g
    · exact h.h2 k g
    · exact Nat.le_trans h.hB g
  · rcases h5 k hk with g | g
    · exact h.h3 k g
    · exact Nat.le_trans h.hB g
theorem Held.below {B : Nat} {W0 w w' : World} {tb : Nat} {sv fv : Value} {s : Ts Int} (h : Held B W0 w tb sv fv s) (hb' : Below w.heap.size w w') : Held B W0 w' tb sv fv s :=
  ⟨h.lies.below hb', h.ok, h.h1, h.h2, h.h3, h.bel.trans (hb'.mono h.hB), Nat.le_trans h.hB hb'.size⟩
theorem Held.new {W0 w w' : World} {B n : Nat} {e : Ending} (h0 : 0 < n) (h1 : n ≤ 1024) (hbel : Below B W0 w) (hB : B ≤ w.heap.size) (h : RetNew n w e w') : Held B W0 w' w.heap.size (.slice none 0 0) (.slice none 0 0) (newT n 0) :=
  ⟨h.2.1, newT_okay n _ h0 h1, hB, fun k hk => by simp [Value.ownBlock] at hk, fun k hk => by simp [Value.ownBlock] at hk, hbel.trans (h.2.2.mono hB), Nat.le_trans hB h.2.2.size⟩
end Go.Proofs.Ytlnheknhdabhdaa.TU
