/-
  A step, whatever it is; the law's own block of the document's ring.
  Conditions: the numbers fit.
-/
import Derived.Test.YtanchjcifhbllaaStepFork
import Derived.Test.YtanchjcifhbllaaStepCall
import Derived.Test.YtanchjcifhbllaaStepPicks
set_option linter.unusedVariables false
namespace Go.Proofs.Ytanchjcifhbllaa
open Go.RowKit

theorem step_any {B : Nat} {W0 W : World} {rb : Nat} {mv v : Value} {P S : Rg} {C K : Nat} (kd id wt : Int) (nu : Nat) (hh : Held B W0 W rb mv P) (hr : RowR W v S.l) (hsim : Sim K S P) (hf : Fit C S) (hC : C ≤ 9000) (hnu : nu < 256) :
    Calls Try.prog 12 #[.pointer (some ⟨rb, 0, none⟩), refV v S, .agg #[.int .i64 kd, .int .i64 id, .int .i64 wt, .int .u8 nu]] W (StepPost B W0 W rb mv C) := by
  by_cases h6 : kd = 6
  · subst h6
    exact step_fork id wt nu hh hr hsim hf hC
  · by_cases h5 : kd = 5
    · subst h5
      exact step_picks id wt nu hh hr hsim hf hC hnu
    · exact step_call kd id wt nu hh hr hsim hf hC h5 h6

structure Lp (B : Nat) (W w : World) (N : Nat) (rb : Nat) (mv : Value) (P : Rg) (v : Value) (a b : Nat) (l : List Mb) : Prop where
  held : Held B W w rb mv P
  ring : w.heap[N]? = some (.cells #[v, .int .i64 a, .int .i64 b] 30 (0, 0))
  row : RowR w v l
  hB : B ≤ N
theorem Lp.below {B : Nat} {W w w' : World} {N : Nat} {rb : Nat} {mv : Value} {P : Rg} {v : Value} {a b : Nat} {l : List Mb} (h : Lp B W w N rb mv P v a b l) (hb : Below w.heap.size w w') : Lp B W w' N rb mv P v a b l :=
  ⟨h.held.below hb, keep_block h.ring hb, h.row.below hb, h.hB⟩
theorem ring_set {w : World} {N : Nat} {p q r : Value} (h : w.heap[N]? = some (.cells #[p, q, r] 30 (0, 0))) (v : Value) (a b : Nat) :
    (((w.setCell ⟨N, 0, none⟩ v).setCell ⟨N, 1, none⟩ (.int .i64 a)).setCell ⟨N, 2, none⟩ (.int .i64 b)).heap[N]? = some (.cells #[v, .int .i64 a, .int .i64 b] 30 (0, 0)) ∧ ∀ k, k ≠ N → (((w.setCell ⟨N, 0, none⟩ v).setCell ⟨N, 1, none⟩ (.int .i64 a)).setCell ⟨N, 2, none⟩ (.int .i64 b)).heap[k]? = w.heap[k]? :=
  ⟨heap_setCell_mem _ _ _ _ _ _ _ (heap_setCell_mem _ _ _ _ _ _ _ (heap_setCell_mem _ _ _ _ _ _ _ h)), fun k hne => (Below.heap_setCell _ _ _ _ hne).trans ((Below.heap_setCell _ _ _ _ hne).trans (Below.heap_setCell _ _ _ _ hne))⟩
/-- A ring and a row stay where another block is written. -/
theorem lp_set {B : Nat} {W w : World} {N : Nat} {rb : Nat} {mv : Value} {P : Rg} {v p q r : Value} {a b : Nat} {l : List Mb} (hh : Held B W w rb mv P) (h : w.heap[N]? = some (.cells #[p, q, r] 30 (0, 0))) (hr : RowR w v l) (hB : B ≤ N) :
    Lp B W (((w.setCell ⟨N, 0, none⟩ v).setCell ⟨N, 1, none⟩ (.int .i64 a)).setCell ⟨N, 2, none⟩ (.int .i64 b)) N rb mv P v a b l := by
  obtain ⟨h1, h2⟩ := ring_set h v a b
  refine ⟨hh.keep (((hh.bel.setCell (p := ⟨N, 0, none⟩) (by show _ ≤ N; omega) _).setCell (p := ⟨N, 1, none⟩) (by show _ ≤ N; omega) _).setCell (p := ⟨N, 2, none⟩) (by show _ ≤ N; omega) _) (fun k hf => h2 k fun e => hh.lies.notFoot h (by decide) (by decide) (by rw [← e]; exact hf)), h1, own_keep hr fun k e => h2 k fun e' => row_ne hr h (by rw [← e']; exact e), hB⟩
theorem fit_new : Fit 2048 (newR 0) := ⟨by decide, Nat.zero_le _, fun m hm => (by cases hm), by decide, by decide, Nat.zero_le _, List.Pairwise.nil⟩
theorem sim_new (L : Nat) : Sim 0 (newR 0) (newR L) := Sim.zero (newR 0) L
theorem row_new (w : World) : RowR w (.slice none 0 0) (newR 0).l := ⟨rfl, .inl ⟨rfl, rfl⟩⟩
end Go.Proofs.Ytanchjcifhbllaa
