/-
  A table of the call's own beside the document's: what each call makes of both.
  Conditions: none.
-/
import Derived.Test.YtgpbgakijjdkoaaRefActs
import Derived.Test.YtgpbgakijjdkoaaNobody
set_option linter.unusedVariables false
namespace Go.Proofs.Ytgpbgakijjdkoaa
open Go.RowKit TI

/-- The document's table apart from the program's. -/
structure Side (w : World) (tb : Nat) (sv fv : Value) (b c : Nat) (r : Rs) : Prop where
  at_ : RefAt w b r
  apart : ¬ Foot tb sv fv b
  cap : r.n ≤ c
theorem Side.below {w w' : World} {tb : Nat} {sv fv : Value} {b c : Nat} {r : Rs} (h : Side w tb sv fv b c r) (hb : Below w.heap.size w w') : Side w' tb sv fv b c r := ⟨h.at_.below hb, h.apart, h.cap⟩
theorem foot_grew {w : World} {tb : Nat} {sv fv sv' fv' : Value} (g1 : Grew w sv sv') (g2 : Grew w fv fv') {k : Nat} (hk : k < w.heap.size) (hf : Foot tb sv' fv' k) : Foot tb sv fv k := by
  rcases hf with hf | hf | hf
  · exact .inl hf
  · rcases g1 k hf with g | g
    · exact .inr (.inl g)
    · omega
  · rcases g2 k hf with g | g
    · exact .inr (.inr g)
    · omega
theorem Side.mut {w w' : World} {tb : Nat} {sv fv sv' fv' : Value} {b c : Nat} {r : Rs} (h : Side w tb sv fv b c r) (ha : Apart (Foot tb sv fv) w w') (g1 : Grew w sv sv') (g2 : Grew w fv fv') : Side w' tb sv' fv' b c r :=
  ⟨h.at_.keep ha.size (ha.block b h.at_.lt h.apart), fun hf => h.apart (foot_grew g1 g2 h.at_.lt hf), h.cap⟩
theorem Side.made {w w' : World} {tb : Nat} {sv fv : Value} {s : Ts Int} {b c : Nat} {r : Rs} (h : TabAt w tb sv fv s) (ha : RefAt w' b r) (hb : w.heap.size ≤ b) (hc : r.n ≤ c) : Side w' tb sv fv b c r :=
  ⟨ha, fun hf => by have := h.foot hf; omega, hc⟩

/-- Both tables, told by the same calls. -/
structure Both (B : Nat) (W0 w : World) (tb : Nat) (sv fv : Value) (s : Ts Int) (b c : Nat) (r : Rs) : Prop where
  held : Held B W0 w tb sv fv s
  agr : Agree s r
  side : Side w tb sv fv b c r
  clk : r.clk ≤ 5000
theorem Both.few {B : Nat} {W0 w : World} {tb : Nat} {sv fv : Value} {s : Ts Int} {b c : Nat} {r : Rs} (h : Both B W0 w tb sv fv s b c r) : Few r where
  n0 := by rw [h.agr.n]; exact h.held.ok.n0
  n1 := by rw [h.agr.n]; exact h.held.ok.n1
  clk := by have := h.clk; omega
  fd := fun i hi => by have := h.agr.few i (by rw [← h.agr.n]; exact hi); have := h.clk; omega
  wh := fun i hi => by have := h.agr.clk i (by rw [← h.agr.n]; exact hi); have := h.clk; omega
theorem Both.below {B : Nat} {W0 w w' : World} {tb : Nat} {sv fv : Value} {s : Ts Int} {b c : Nat} {r : Rs} (h : Both B W0 w tb sv fv s b c r) (hb : Below w.heap.size w w') : Both B W0 w' tb sv fv s b c r :=
  ⟨h.held.below hb, h.agr, h.side.below hb, h.clk⟩

/-- What Take makes of both. -/
theorem take_play {s : Ts Int} {r : Rs} (o : Okay s) (a : Agree s r) (v : Int) :
    (whichT r r.n = 0 ∧ ∀ w tb sv fv, TabAt w tb sv fv s → Calls Try.prog 19 #[.pointer (some ⟨tb, 0, none⟩), .int .i64 v] w (RetB (.tuple #[.int .i64 0, .int .i64 0, .int .i64 13]) w)) ∨
    ∃ i s', i < r.n ∧ whichT r r.n = i + 1 ∧ Okay s' ∧ Agree s' (takeR r (i + 1) v) ∧
      ∀ w tb sv fv, TabAt w tb sv fv s → Calls Try.prog 19 #[.pointer (some ⟨tb, 0, none⟩), .int .i64 v] w (MutPost w tb sv fv (.tuple #[.int .i64 ((i + 1 : Nat) : Int), .int .i64 ((r.fd i + 1 : Nat) : Int), .int .i64 0]) s') := by
  have hnext := a.next o
  by_cases hk : 0 < s.k
  · right
    rw [if_pos hk] at hnext
    have hlo := o.lo (s.k - 1) (by omega)
    have e : s.fr (s.k - 1) = s.fr (s.k - 1) - 1 + 1 := by omega
    refine ⟨s.fr (s.k - 1) - 1, takeOld s v, by rw [a.n]; have := o.mn; omega, hnext.trans e, o.old v hk, by rw [← e]; exact a.old o v hk, fun w tb sv fv h => ?_⟩
    have := take_old w tb sv fv s v h o hk
    rw [a.gen _ (by omega)] at this
    rw [← e]
    exact this
  · rw [if_neg hk] at hnext
    by_cases hm : s.m < s.n
    · right
      rw [if_pos hm] at hnext
      refine ⟨s.m, takeNew s v, by rw [a.n]; exact hm, hnext, o.new v (by omega) hm, a.fresh o v (by omega) hm, fun w tb sv fv h => ?_⟩
      rw [(a.rest s.m (Nat.le_refl _) hm).2.1]
      exact take_new w tb sv fv s v h o (by omega) hm
    · left
      rw [if_neg hm] at hnext
      exact ⟨hnext, fun w tb sv fv h => take_full w tb sv fv s v h o.n0 (by omega) (by have := o.mn; omega)⟩

theorem hasR_eq {s : Ts Int} {r : Rs} (o : Okay s) (a : Agree s r) (q : Int) : hasR r q = inU s q := a.has o q

/-- Behind the step of both: they go on together. -/
def StepPost (B : Nat) (W0 w : World) (tb : Nat) (sv fv : Value) (n k : Nat) (e : Ending) (w' : World) : Prop :=
  ∃ sv' fv' s' b' c' r', e = .returned (.tuple #[refV b' c' r', .bool true]) ∧ Both B W0 w' tb sv' fv' s' b' c' r' ∧ s'.n = n ∧ r'.clk ≤ k + 1 ∧ Apart (Foot tb sv fv) w w' ∧ Grew w sv sv' ∧ Grew w fv fv'

/-- A cell that is there, whatever it holds. -/
def cellOr (w : World) (b j : Nat) : Value := (w.cell? ⟨b, j, none⟩).getD undef
theorem there_of {w : World} {b j : Nat} {v : Value} (h : w.cell? ⟨b, j, none⟩ = some v) : w.cell? ⟨b, j, none⟩ = some (cellOr w b j) := by unfold cellOr; rw [h]; rfl
end Go.Proofs.Ytgpbgakijjdkoaa
