/-
  slices.Clone, slices.DeleteFunc with whatever predicate.
  Conditions: the row is of the caller's own; the predicate, whatever the world, answers so, and leaves all that was.
-/
import Derived.Test.YtngfcgegondmgaaIndex
import Derived.Lib.SliceRun
set_option linter.unusedVariables false
namespace Go.Proofs.Ytngfcgegondmgaa
open Go.RowKit

theorem setCells_block (b : Nat) : ∀ (us : List Value) (k : Nat) (W : World), (W.setCells b k us).heap.size = W.heap.size
  | [], _, _ => rfl
  | u :: r, k, W => by rw [World.setCells, setCells_block b r]; simp [World.setCell]
theorem below_setCells {B : Nat} {a : World} (b : Nat) (hb : B ≤ b) : ∀ (us : List Value) (k : Nat) (W : World), Below B a W → Below B a (W.setCells b k us)
  | [], _, _, h => h
  | u :: r, k, W, h => below_setCells b hb r (k + 1) _ (h.setCell (p := ⟨b, k, none⟩) hb u)
theorem own_short {W : World} {base e g n cap i : Nat} {xs : List Value} (h : W.ownsRow base e 2 (.slice (some ⟨g, 0, none⟩) n cap) n xs) (hi : i ≤ n) :
    W.ownsRow base e 2 (.slice (some ⟨g, 0, none⟩) i cap) i (xs.take (i * 2)) := by
  obtain ⟨h1, h2⟩ := h
  refine ⟨by rw [List.length_take]; omega, ?_⟩
  rcases h2 with ⟨h0, _⟩ | ⟨g', cap', cur, hv, hg, hh, hn, hc, hs, ht⟩
  · cases h0
  · injection hv with e1 e2 e3
    injection e1 with e1
    injection e1 with e1
    subst e1 e3
    exact .inr ⟨g, cap, cur, rfl, hg, hh, by omega, hc, hs, by rw [← ht, List.take_take, Nat.min_eq_left (by omega)]⟩
/-- The cells behind the first i spans are stored into; the slice is cut. -/
theorem own_cut {base e g n cap i : Nat} (hi : i ≤ n) : ∀ (us : List Value) (k : Nat) (W : World) (xs : List Value), i * 2 ≤ k → W.ownsRow base e 2 (.slice (some ⟨g, 0, none⟩) n cap) n xs →
    (W.setCells g k us).ownsRow base e 2 (.slice (some ⟨g, 0, none⟩) i cap) i (xs.take (i * 2))
  | [], k, W, xs, _, h => own_short h hi
  | u :: r, k, W, xs, hk, h => by
    have := own_cut hi r (k + 1) _ _ (by omega) (own_set (k := k) h u)
    rw [World.setCells]
    rwa [List.take_set_of_le hk] at this

/-- clear of a slice of spans. -/
theorem run_clear_spans {P : Program} (w : World) (t e : TypeId) (ht : P.underlying t = some (.slice e)) (hv : ∀ w, (zeroValue e).run P w = .ok (.agg #[.int .i64 0, .int .i64 0]) w) (b o n c : Nat) (hn : 0 < n)
    (hc : ∀ j, j < n * 2 → (w.cell? ⟨b, o + j, none⟩).isSome = true) (hf : ∀ j, j < n * 2 → w.frozen? ⟨b, o + j, none⟩ = false) :
    ∃ us, ∀ ty, (Builtin.clear_ #[t] ty #[.slice (some ⟨b, o, none⟩) n c]).run P w = .ok (.tuple #[]) (w.setCells b o us) := by
  have hcell : (Value.agg #[.int .i64 0, .int .i64 0]).cells = #[.int .i64 0, .int .i64 0] := rfl
  refine ⟨(Builtin.zeroCells #[.int .i64 0, .int .i64 0] n).toList, fun ty => ?_⟩
  have hlen : (Builtin.zeroCells #[.int .i64 0, .int .i64 0] n).toList.length = n * 2 := by simp [Builtin.zeroCells]
  have hst := run_storeCells_cells (P := P) b o (Builtin.zeroCells #[.int .i64 0, .int .i64 0] n).toList 0 w (by rw [hlen]; simpa using hc) (by rw [hlen]; simpa using hf) (by
    intro v hv'
    simp only [Builtin.zeroCells, Array.toList_map, List.mem_map] at hv'
    obtain ⟨i, _, rfl⟩ := hv'
    rcases Nat.mod_two_eq_zero_or_one i with h | h <;> (simp [h]; rfl))
  simp only [Nat.add_zero] at hst
  obtain ⟨m, rfl⟩ : ∃ m, n = m + 1 := ⟨n - 1, by omega⟩
  simp [Builtin.clear_, run_underlying ht, hv, hcell, hst]

/-- DeleteFunc under way: the first i spans are those that stay of the first j; from j on the row is as it was. -/
def KeptS (q : Sp → Bool) (ps dk : List Sp) (i j : Nat) : Prop :=
  i < j ∧ j ≤ ps.length ∧ dk.length = ps.length ∧ dk.take i = (ps.take j).filter q ∧ ∀ t, j ≤ t → dk[t]? = ps[t]?
theorem take_succ_of {α : Type} {l : List α} {j : Nat} {x : α} (h : l[j]? = some x) : l.take (j + 1) = l.take j ++ [x] := by
  rw [List.take_add_one, h]; rfl
theorem KeptS.start {q : Sp → Bool} {ps : List Sp} {k : Nat} {s : Sp} (hk : ps[k]? = some s) (hs : q s = false) (hall : ∀ (j : Nat) (t : Sp), j < k → ps[j]? = some t → q t = true) : KeptS q ps ps k (k + 1) := by
  have hlt : k < ps.length := (List.getElem?_eq_some_iff.1 hk).1
  refine ⟨by omega, by omega, rfl, ?_, fun t _ => rfl⟩
  rw [take_succ_of hk, List.filter_append, List.filter_eq_self.2 ?_]
  · simp [hs]
  · intro t ht
    obtain ⟨j, hj, e⟩ := List.getElem_of_mem ht
    rw [List.length_take] at hj
    refine hall j t (by omega) ?_
    rw [List.getElem_take] at e
    rw [List.getElem?_eq_getElem (by omega), e]
theorem KeptS.skip {q : Sp → Bool} {ps dk : List Sp} {i j : Nat} {s : Sp} (h : KeptS q ps dk i j) (hk : ps[j]? = some s) (hs : q s = false) : KeptS q ps dk i (j + 1) := by
  obtain ⟨h1, h2, h3, h4, h5⟩ := h
  have hlt : j < ps.length := (List.getElem?_eq_some_iff.1 hk).1
  refine ⟨by omega, by omega, h3, ?_, fun t ht => h5 t (by omega)⟩
  rw [take_succ_of hk, List.filter_append, h4]
  simp [hs]
theorem KeptS.take {q : Sp → Bool} {ps dk : List Sp} {i j : Nat} {s : Sp} (h : KeptS q ps dk i j) (hk : ps[j]? = some s) (hs : q s = true) : KeptS q ps (dk.set i s) (i + 1) (j + 1) := by
  obtain ⟨h1, h2, h3, h4, h5⟩ := h
  have hlt : j < ps.length := (List.getElem?_eq_some_iff.1 hk).1
  refine ⟨by omega, by omega, by rw [List.length_set]; exact h3, ?_, fun t ht => ?_⟩
  · rw [take_succ_of hk, List.filter_append, ← h4, take_succ_of (x := s) (by rw [List.getElem?_set]; simp; omega), List.take_set_of_le (Nat.le_refl _)]
    simp [hs]
  · rw [List.getElem?_set, if_neg (by omega)]
    exact h5 t (by omega)
theorem KeptS.at_ {q : Sp → Bool} {ps dk : List Sp} {i j : Nat} (h : KeptS q ps dk i j) : dk[j]? = ps[j]? := h.2.2.2.2 j (Nat.le_refl _)
theorem KeptS.done {q : Sp → Bool} {ps dk : List Sp} {i : Nat} (h : KeptS q ps dk i ps.length) : dk.take i = ps.filter q := by
  have := h.2.2.2.1
  rwa [List.take_length] at this
theorem spansCells_take : ∀ (ps : List Sp) (i : Nat), (spansCells ps).take (i * 2) = spansCells (ps.take i)
  | [], i => by simp [spansCells]
  | p :: ps, 0 => by simp [spansCells]
  | p :: ps, i + 1 => by
    rw [spansCells_cons, show (i + 1) * 2 = i * 2 + 1 + 1 by omega, List.take_succ_cons, List.take_succ_cons, spansCells_take ps i, List.take_succ_cons, spansCells_cons]
end Go.Proofs.Ytngfcgegondmgaa
