/-
  Seats, one by one: both functions; the quotas.
  Conditions: weights and total that are right.
-/
import Derived.Test.YtademjmnoncieaaRow
import Derived.RegionTactic
set_option linter.unusedVariables false
namespace Go.Proofs.Ytademjmnoncieaa
open Go.RowKit

/-- What a call answers that makes a list. -/
def RetI (xs : List Int) (w : World) (e : Ending) (w' : World) : Prop := ∃ v, e = .returned v ∧ IntsAt w' v xs ∧ Below w.heap.size w w'
/-- .. with an error's number. -/
def RetIE (xs : List Int) (err : Int) (w : World) (e : Ending) (w' : World) : Prop := ∃ v, e = .returned (.tuple #[v, .int .i64 err]) ∧ IntsAt w' v xs ∧ Below w.heap.size w w'

theorem gr_step {ws : List Int} {k b : Nat} {y : Int} (hb : nextL ws (gr ws k) = some b) (hy : (gr ws k)[b]? = some y) : (gr ws k).set b (y + 1) = gr ws (k + 1) := by
  rw [gr, hb]
  simp only [bump]
  rw [getD_of hy]

theorem fits_at {hs : List Int} {n : Int} (h : Fits hs n) {b : Nat} {y : Int} (hy : hs[b]? = some y) : 0 ≤ y ∧ y ≤ n := by
  have := h b
  rwa [getD_of hy] at this

def RefSeatsRel (ws : List Int) (n : Nat) (w : World) (q : Nat) (s6 : Value) (wr : World) : Prop :=
  ∃ k : Nat, k ≤ n ∧ q = n - k ∧ s6 = .int .i64 k ∧ Below w.heap.size w wr ∧ RowAt wr w.heap.size (gr ws k)
end Go.Proofs.Ytademjmnoncieaa
