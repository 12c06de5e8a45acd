/-
  The document's ring in a block, and the block of what a call answers.
  Conditions: none.
-/
import Derived.Test.YtanchjcifhbllaaRefWith
import Derived.Test.YtanchjcifhbllaaOrders
set_option linter.unusedVariables false
namespace Go.Proofs.Ytanchjcifhbllaa
open Go.RowKit

theorem results_row_tmp {P : Program} {fn : Func} {p u : Tmp} {ty : TypeId} (h : fn.results = #[.cell p ty, .tmp u]) (tmps : Array Value) (w : World) (g : Nat) (t : TypeId) (cs : Array Value) (fr : Nat × Nat) (d : TypeDesc)
    (hp : tmps.getD p undef = .pointer (some ⟨g, 0, none⟩)) (hg : w.heap[g]? = some (.cells cs t fr))
    (hu : P.underlying ty = some d) (hd : (match d with | .struct _ | .array _ _ => true | _ => false) = true) (hi : (P.info? ty).map (·.size) = some cs.size) (x : Value) (hx : tmps.getD u undef = x) :
    (results fn tmps).run P w = .ok (.tuple #[.agg cs, x]) w := by
  rw [results_cell_tmp h, hp, hx]
  simp [asAddr, run_loadVar_row w g t ty cs fr d hg hu hd hi, Result.andThen]
/-- A row of members lies in no block of another kind. -/
theorem row_ne {w : World} {v : Value} {l : List Mb} {N : Nat} {cs : Array Value} (h : RowR w v l) (hN : w.heap[N]? = some (.cells cs 30 (0, 0))) : v.ownBlock ≠ some N := fun e => by
  rcases h.2 with ⟨h1, _⟩ | ⟨g, cap, cur, h1, _, hh, _⟩
  · subst h1; cases e
  · subst h1
    cases e
    rw [hN] at hh
    injection hh with hh
    injection hh with _ hh _
    exact absurd hh (by decide)
def RefPostE (W : World) (s' : Rg) (err : Int) (e : Ending) (w' : World) : Prop := ∃ v', e = .returned (.tuple #[refV v' s', .int .i64 err]) ∧ RowR w' v' s'.l ∧ Below W.heap.size W w'
/-- The ring's block, with a ring of these numbers, and the answer's. -/
structure Box (W w : World) (N : Nat) (v : Value) (a b : Nat) : Prop where
  ring : w.heap[N]? = some (.cells #[v, .int .i64 a, .int .i64 b] 30 (0, 0))
  res : w.heap[N + 1]? = some (.cells #[.slice none 0 0, .int .i64 0, .int .i64 0] 30 (0, 0))
  bel : Below W.heap.size W w
  n : W.heap.size = N
theorem box_new (W : World) (v : Value) (a b : Nat) : Box W ((W.alloc (.cells #[v, .int .i64 a, .int .i64 b] 30)).alloc (.cells #[.slice none 0 0, .int .i64 0, .int .i64 0] 30)) W.heap.size v a b := by
  have h1 := (Below.refl W.heap.size W).alloc (Nat.le_refl _) (.cells #[v, .int .i64 a, .int .i64 b] 30)
  have h2 := (Below.refl (W.alloc (.cells #[v, .int .i64 a, .int .i64 b] 30)).heap.size _).alloc (Nat.le_refl _) (.cells #[.slice none 0 0, .int .i64 0, .int .i64 0] 30)
  exact ⟨keep_block (alloc_block W _ rfl) h2, alloc_block _ _ (by simp), h1.trans (h2.mono h1.size), rfl⟩
theorem Box.below {W w w' : World} {N : Nat} {v : Value} {a b : Nat} (h : Box W w N v a b) (hb : Below w.heap.size w w') : Box W w' N v a b :=
  ⟨keep_block h.ring hb, keep_block h.res hb, h.bel.trans (hb.mono h.bel.size), h.n⟩
/-- The ring's block is given other numbers. -/
theorem Box.last {W w : World} {N : Nat} {v : Value} {a b : Nat} (h : Box W w N v a b) (x y : Nat) : Box W ((w.setCell ⟨N, 1, none⟩ (.int .i64 x)).setCell ⟨N, 2, none⟩ (.int .i64 y)) N v x y := by
  have hn := h.n
  refine ⟨heap_setCell_mem _ _ _ _ _ _ _ (heap_setCell_mem _ _ _ _ _ _ _ h.ring), ?_, (h.bel.setCell (p := ⟨N, 1, none⟩) (by show _ ≤ N; omega) _).setCell (p := ⟨N, 2, none⟩) (by show _ ≤ N; omega) _, hn⟩
  exact (Below.heap_setCell _ _ _ _ (show N + 1 ≠ N by omega)).trans ((Below.heap_setCell _ _ _ _ (show N + 1 ≠ N by omega)).trans h.res)
theorem Box.row {W w : World} {N : Nat} {v v' : Value} {a b x y : Nat} {l : List Mb} (h : Box W w N v a b) (hr : RowR w v' l) : RowR ((w.setCell ⟨N, 1, none⟩ (.int .i64 x)).setCell ⟨N, 2, none⟩ (.int .i64 y)) v' l :=
  own_keep hr fun k hk => (Below.heap_setCell _ _ _ _ (show k ≠ N from fun e => row_ne hr h.ring (by rw [← e]; exact hk))).trans (Below.heap_setCell _ _ _ _ (show k ≠ N from fun e => row_ne hr h.ring (by rw [← e]; exact hk)))
/-- The answer is laid. -/
theorem Box.done {W w : World} {N : Nat} {v v' : Value} {a b : Nat} {s' : Rg} (h : Box W w N v a b) (hr : RowR w v' s'.l) (err : Int) :
    (((w.setCell ⟨N + 1, 0, none⟩ v').setCell ⟨N + 1, 1, none⟩ (.int .i64 s'.num)).setCell ⟨N + 1, 2, none⟩ (.int .i64 s'.den)).heap[N + 1]? = some (.cells #[v', .int .i64 s'.num, .int .i64 s'.den] 30 (0, 0)) ∧
    RefPostE W s' err (.returned (.tuple #[refV v' s', .int .i64 err])) (((w.setCell ⟨N + 1, 0, none⟩ v').setCell ⟨N + 1, 1, none⟩ (.int .i64 s'.num)).setCell ⟨N + 1, 2, none⟩ (.int .i64 s'.den)) := by
  have hn := h.n
  refine ⟨heap_setCell_mem _ _ _ _ _ _ _ (heap_setCell_mem _ _ _ _ _ _ _ (heap_setCell_mem _ _ _ _ _ _ _ h.res)), v', rfl, own_keep hr fun k hk => ?_, ?_⟩
  · have hne : k ≠ N + 1 := fun e => row_ne hr h.res (by rw [← e]; exact hk)
    exact (Below.heap_setCell _ _ _ _ hne).trans ((Below.heap_setCell _ _ _ _ hne).trans (Below.heap_setCell _ _ _ _ hne))
  · exact ((h.bel.setCell (p := ⟨N + 1, 0, none⟩) (by show _ ≤ N + 1; omega) _).setCell (p := ⟨N + 1, 1, none⟩) (by show _ ≤ N + 1; omega) _).setCell (p := ⟨N + 1, 2, none⟩) (by show _ ≤ N + 1; omega) _
end Go.Proofs.Ytanchjcifhbllaa
