/-
  What lies in memory while a ring and the document's take a step together.
  Conditions: none.
-/
import Derived.Test.YtanchjcifhbllaaWant
import Derived.Test.YtanchjcifhbllaaAlike
set_option linter.unusedVariables false
namespace Go.Proofs.Ytanchjcifhbllaa
open Go.RowKit

theorem results_three {fn : Func} {t p u : Tmp} {ty : TypeId} (h : fn.results = #[.tmp t, .cell p ty, .tmp u]) (tmps : Array Value) (P : Program) (w : World) :
    (results fn tmps).run P w =
      ((asAddr (tmps.getD p undef)).run P w).andThen fun a w₁ => ((loadVar ty a).run P w₁).andThen fun v w₂ => .ok (.tuple #[tmps.getD t undef, v, tmps.getD u undef]) w₂ := by
  simp only [results, h]
  simp [Sem.run_bind, Result.andThen]
theorem results_tmp_row_tmp {P : Program} {fn : Func} {t p u : Tmp} {ty : TypeId} (h : fn.results = #[.tmp t, .cell p ty, .tmp u]) (tmps : Array Value) (w : World) (g : Nat) (T : TypeId) (cs : Array Value) (fr : Nat × Nat) (d : TypeDesc)
    (hp : tmps.getD p undef = .pointer (some ⟨g, 0, none⟩)) (hg : w.heap[g]? = some (.cells cs T fr))
    (hu : P.underlying ty = some d) (hd : (match d with | .struct _ | .array _ _ => true | _ => false) = true) (hi : (P.info? ty).map (·.size) = some cs.size) (x y : Value) (hx : tmps.getD t undef = x) (hy : tmps.getD u undef = y) :
    (results fn tmps).run P w = .ok (.tuple #[x, .agg cs, y]) w := by
  rw [results_three h, hp, hx, hy]
  simp [asAddr, run_loadVar_row w g T ty cs fr d hg hu hd hi, Result.andThen]

/-- A block of another kind is none of a ring's. -/
theorem RingAt.notFoot {w : World} {rb : Nat} {mv : Value} {s : Rg} (h : RingAt w rb mv s) {k : Nat} {cs : Array Value} {T : TypeId} {fr : Nat × Nat} (hk : w.heap[k]? = some (.cells cs T fr)) (h1 : T ≠ 60) (h2 : T ≠ 76) : ¬ Foot rb mv k := fun hf => by
  rcases hf with e | e
  · subst e
    rw [h.head] at hk
    injection hk with hk
    injection hk with _ hk _
    exact h1 hk.symm
  · rcases h.row.2 with ⟨a, _⟩ | ⟨g, cap, cur, a, _, hh, _⟩
    · subst a; cases e
    · subst a
      cases e
      rw [hh] at hk
      injection hk with hk
      injection hk with _ hk _
      exact h2 hk.symm
theorem RingAt.notRow {w : World} {rb : Nat} {mv v : Value} {s : Rg} {l : List Mb} (h : RingAt w rb mv s) (hr : RowR w v l) {k : Nat} (hk : v.ownBlock = some k) : ¬ Foot rb mv k := by
  rcases hr.2 with ⟨a, _⟩ | ⟨g, cap, cur, a, _, hh, _⟩
  · subst a; cases hk
  · subst a
    cases hk
    exact h.notFoot hh (by decide) (by decide)
theorem row_apart {F : Nat → Prop} {w w' : World} {v : Value} {l : List Mb} (hr : RowR w v l) (ha : Apart F w w') (hn : ∀ k, v.ownBlock = some k → ¬ F k) : RowR w' v l :=
  own_keep hr fun k hk => ha.block k (own_lt hr hk) (hn k hk)

structure Stp (B : Nat) (W0 W w : World) (N : Nat) (x0 x1 x2 x3 : Value) (rb : Nat) (mv0 mv : Value) (P : Rg) (v : Value) (a b : Nat) (l : List Mb) : Prop where
  held : Held B W0 w rb mv P
  ring : w.heap[N]? = some (.cells #[v, .int .i64 a, .int .i64 b] 30 (0, 0))
  act : w.heap[N + 1]? = some (.cells #[x0, x1, x2, x3] 35 (0, 0))
  res : w.heap[N + 2]? = some (.cells #[.slice none 0 0, .int .i64 0, .int .i64 0] 30 (0, 0))
  row : RowR w v l
  ap : Apart (Foot rb mv0) W w
  grew : Grew W mv0 mv
  n : W.heap.size = N
  hB : B ≤ N
theorem Stp.new {B : Nat} {W0 W w : World} {N : Nat} {x0 x1 x2 x3 : Value} {rb : Nat} {mv : Value} {P : Rg} {v : Value} {a b : Nat} {l : List Mb} (h : Held B W0 W rb mv P) (hr : RowR W v l) (hx : Box3 W w N v a b x0 x1 x2 x3) : Stp B W0 W w N x0 x1 x2 x3 rb mv mv P v a b l :=
  ⟨h.below hx.bel, hx.ring, hx.act, hx.res, hr.below hx.bel, Apart.of_below hx.bel, Grew.refl _ _, hx.n, by have := hx.n; have := h.hS; have := h.bel.size; omega⟩
section
variable {B : Nat} {W0 W w w' : World} {N : Nat} {x0 x1 x2 x3 : Value} {rb : Nat} {mv0 mv : Value} {P : Rg} {v : Value} {a b : Nat} {l : List Mb}
theorem Stp.below (h : Stp B W0 W w N x0 x1 x2 x3 rb mv0 mv P v a b l) (hb : Below w.heap.size w w') : Stp B W0 W w' N x0 x1 x2 x3 rb mv0 mv P v a b l :=
  ⟨h.held.below hb, keep_block h.ring hb, keep_block h.act hb, keep_block h.res hb, h.row.below hb, h.ap.trans (Apart.of_below (F := Foot rb mv0) hb) (fun _ _ h => h), h.grew, h.n, h.hB⟩
/-- A call of the ring. -/
theorem Stp.mut (h : Stp B W0 W w N x0 x1 x2 x3 rb mv0 mv P v a b l) {r : Value} {P' : Rg} {e : Ending} (hm : MutPost w rb mv r P' e w') (hk : Okay P') :
    ∃ mv', e = .returned r ∧ Stp B W0 W w' N x0 x1 x2 x3 rb mv0 mv' P' v a b l ∧ Apart (Foot rb mv) w w' ∧ Grew w mv mv' := by
  obtain ⟨mv', he, h1, h2, h3⟩ := h.held.mut hm hk
  have hk : ∀ {k : Nat} {cs : Array Value} {T : TypeId}, w.heap[k]? = some (Obj.cells cs T (0, 0)) → T ≠ 60 → T ≠ 76 → w'.heap[k]? = some (Obj.cells cs T (0, 0)) := fun hk h1 h2' => (h2.block _ (heap_lt hk) (h.held.lies.notFoot hk h1 h2')).trans hk
  refine ⟨mv', he, ⟨h1, hk h.ring (by decide) (by decide), hk h.act (by decide) (by decide), hk h.res (by decide) (by decide), row_apart h.row h2 (fun k hk => h.held.lies.notRow h.row hk), h.ap.trans h2 (fun x hx hf => ?_), fun k hk => ?_, h.n, h.hB⟩, h2, h3⟩
  · rcases hf with hf | hf
    · exact .inl hf
    · rcases h.grew x hf with e | e
      · exact .inr e
      · omega
  · rcases h3 k hk with e | e
    · exact h.grew k e
    · exact .inr (Nat.le_trans h.ap.size e)
/-- A store into the block of the document's ring. -/
theorem Stp.set (h : Stp B W0 W w N x0 x1 x2 x3 rb mv0 mv P v a b l) {v' : Value} {l' : List Mb} (a' b' : Nat) (hr : RowR w v' l') :
    Stp B W0 W (((w.setCell ⟨N, 0, none⟩ v').setCell ⟨N, 1, none⟩ (.int .i64 a')).setCell ⟨N, 2, none⟩ (.int .i64 b')) N x0 x1 x2 x3 rb mv0 mv P v' a' b' l' := by
  have hn := h.n
  have hB := h.hB
  have hk : ∀ k, k ≠ N → (((w.setCell ⟨N, 0, none⟩ v').setCell ⟨N, 1, none⟩ (.int .i64 a')).setCell ⟨N, 2, none⟩ (.int .i64 b')).heap[k]? = w.heap[k]? := fun k hne => (Below.heap_setCell _ _ _ _ hne).trans ((Below.heap_setCell _ _ _ _ hne).trans (Below.heap_setCell _ _ _ _ hne))
  refine ⟨h.held.keep (((h.held.bel.setCell (p := ⟨N, 0, none⟩) (by show _ ≤ N; omega) _).setCell (p := ⟨N, 1, none⟩) (by show _ ≤ N; omega) _).setCell (p := ⟨N, 2, none⟩) (by show _ ≤ N; omega) _) (fun k hf => hk k fun e => h.held.lies.notFoot h.ring (by decide) (by decide) (by rw [← e]; exact hf)), heap_setCell_mem _ _ _ _ _ _ _ (heap_setCell_mem _ _ _ _ _ _ _ (heap_setCell_mem _ _ _ _ _ _ _ h.ring)), (hk _ (by omega)).trans h.act, (hk _ (by omega)).trans h.res, own_keep hr fun k e => hk k fun e' => row_ne hr h.ring (by rw [← e']; exact e), ((h.ap.set (p := ⟨N, 0, none⟩) (.inr (by show _ ≤ N; omega)) _).set (p := ⟨N, 1, none⟩) (.inr (by show _ ≤ N; omega)) _).set (p := ⟨N, 2, none⟩) (.inr (by show _ ≤ N; omega)) _, h.grew, hn, hB⟩
end
/-- What a step answers. -/
def StepPost (B : Nat) (W0 W : World) (rb : Nat) (mv0 : Value) (C : Nat) (e : Ending) (w' : World) : Prop :=
  ∃ rb' mv' P' v' S' C' K', e = .returned (.tuple #[.pointer (some ⟨rb', 0, none⟩), refV v' S', .bool true]) ∧ Held B W0 w' rb' mv' P' ∧ RowR w' v' S'.l ∧ Sim K' S' P' ∧ Fit C' S' ∧ C' ≤ C + 50 ∧ Apart (Foot rb mv0) W w'
section
variable {B : Nat} {W0 W w w' : World} {N : Nat} {x0 x1 x2 x3 : Value} {rb : Nat} {mv0 mv : Value} {P : Rg} {v : Value} {a b : Nat} {l : List Mb}
/-- The answer's block is written. -/
theorem Stp.done (h : Stp B W0 W w N x0 x1 x2 x3 rb mv0 mv P v a b l) {rb' : Nat} {mv' v' : Value} {P' S' : Rg} {C C' K' : Nat} (hh : Held B W0 w rb' mv' P') (hr : RowR w v' S'.l) (hs : Sim K' S' P') (hf : Fit C' S') (hC : C' ≤ C + 50) :
    (((w.setCell ⟨N + 2, 0, none⟩ v').setCell ⟨N + 2, 1, none⟩ (.int .i64 S'.num)).setCell ⟨N + 2, 2, none⟩ (.int .i64 S'.den)).heap[N + 2]? = some (.cells #[v', .int .i64 S'.num, .int .i64 S'.den] 30 (0, 0)) ∧
    StepPost B W0 W rb mv0 C (.returned (.tuple #[.pointer (some ⟨rb', 0, none⟩), refV v' S', .bool true])) (((w.setCell ⟨N + 2, 0, none⟩ v').setCell ⟨N + 2, 1, none⟩ (.int .i64 S'.num)).setCell ⟨N + 2, 2, none⟩ (.int .i64 S'.den)) := by
  have hn := h.n
  have hB := h.hB
  have hk : ∀ k, k ≠ N + 2 → (((w.setCell ⟨N + 2, 0, none⟩ v').setCell ⟨N + 2, 1, none⟩ (.int .i64 S'.num)).setCell ⟨N + 2, 2, none⟩ (.int .i64 S'.den)).heap[k]? = w.heap[k]? := fun k hne => (Below.heap_setCell _ _ _ _ hne).trans ((Below.heap_setCell _ _ _ _ hne).trans (Below.heap_setCell _ _ _ _ hne))
  refine ⟨heap_setCell_mem _ _ _ _ _ _ _ (heap_setCell_mem _ _ _ _ _ _ _ (heap_setCell_mem _ _ _ _ _ _ _ h.res)), rb', mv', P', v', S', C', K', rfl, ?_, ?_, hs, hf, hC, ?_⟩
  · exact hh.keep (((hh.bel.setCell (p := ⟨N + 2, 0, none⟩) (by show _ ≤ N + 2; omega) _).setCell (p := ⟨N + 2, 1, none⟩) (by show _ ≤ N + 2; omega) _).setCell (p := ⟨N + 2, 2, none⟩) (by show _ ≤ N + 2; omega) _) (fun k hf => hk k fun e => hh.lies.notFoot h.res (by decide) (by decide) (by rw [← e]; exact hf))
  · exact own_keep hr fun k e => hk k fun e' => row_ne hr h.res (by rw [← e']; exact e)
  · exact ((h.ap.set (p := ⟨N + 2, 0, none⟩) (.inr (by show _ ≤ N + 2; omega)) _).set (p := ⟨N + 2, 1, none⟩) (.inr (by show _ ≤ N + 2; omega)) _).set (p := ⟨N + 2, 2, none⟩) (.inr (by show _ ≤ N + 2; omega)) _
end
/-- Both pick the same. -/
theorem pick_same {C K : Nat} {S P : Rg} (h : Sim K S P) (hf : Fit C S) : ∃ q : Int, pickV P = .tuple #[.int .i64 q, .bool (decide (0 < q))] ∧ (plainA S).1 = q := by
  unfold pickV plainA
  rw [h.best]
  cases hb : best S.l with
  | none => exact ⟨0, rfl, rfl⟩
  | some x =>
    obtain ⟨k, m⟩ := x
    obtain ⟨h1, _, _⟩ := best_some hf.pos hb
    obtain ⟨i1, _⟩ := hf.mem m (List.mem_of_getElem? h1)
    have i2 : decide ((0 : Int) < (m.id : Int)) = true := decide_eq_true (by omega)
    exact ⟨m.id, by rw [i2]; rfl, rfl⟩
end Go.Proofs.Ytanchjcifhbllaa
