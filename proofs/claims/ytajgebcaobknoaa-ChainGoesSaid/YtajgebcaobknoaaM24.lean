/-
  A unit's pieces laid tick by tick, as the document does: what lies in memory meanwhile.
  Conditions: none.
-/
import Derived.Test.YtajgebcaobknoaaM23
import Derived.Test.YtajgebcaobknoaaM18
import Derived.Laws.OwnMore

/-
  A unit's pieces laid tick by tick, as the document does: what lies in memory meanwhile.
  Conditions: none.
-/
set_option linter.unusedVariables false
set_option linter.unusedSimpArgs false
namespace Go.Proofs.Ytajgebcaobknoaa
open Go.RowKit

/-- Some ticks laid: the place in block X, its pieces in a row of the call's own, what is left of the rooms in block G. -/
structure RxSt (G X B : Nat) (u s : Int) (wS wx : World) (c : Int) (v : Value) (ps : List Pc) (r : Nat → Nat) : Prop where
  ap : Apart (fun b => b = G) wS wx
  row : RowC wx G fun i => (r i : Int)
  x : wx.heap[X]? = some (.cells #[.int .i64 u, .int .i64 s, .int .i64 c, v] 41 (0, 0))
  own : wx.ownsRow B 51 2 v ps.length (pcsCells ps)
  sz : B ≤ wx.heap.size
  lt : G < X ∧ X < B ∧ G < wS.heap.size ∧ wS.heap.size ≤ X
theorem RxSt.keep {G X B : Nat} {u s c : Int} {wS wx w' : World} {v : Value} {ps : List Pc} {r : Nat → Nat} (h : RxSt G X B u s wS wx c v ps r) (hb : Below wx.heap.size wx w') : RxSt G X B u s wS w' c v ps r :=
  ⟨h.ap.trans (Apart.of_below (F := fun _ => False) hb) fun x _ e => e.elim, h.row.same (hb.block G h.row.lt), keep_block h.x hb, own_below5 h.own hb, Nat.le_trans h.sz hb.size, h.lt⟩
theorem RxSt.drewN {G X B : Nat} {u s c : Int} {wS wx : World} {v : Value} {ps : List Pc} {r : Nat → Nat} (h : RxSt G X B u s wS wx c v ps r) (n : Nat) : RxSt G X B u s wS (wx.drewN n) c v ps r := h.keep (below_drewN (Below.refl _ _) n)
/-- A room is stored. -/
theorem RxSt.room {G X B : Nat} {u s c : Int} {wS wx : World} {v : Value} {ps : List Pc} {r r' : Nat → Nat} (h : RxSt G X B u s wS wx c v ps r) (j : Nat) (x : Int) (hr : ∀ i, i < 16 → (if i = j then x else (r i : Int)) = (r' i : Int)) : RxSt G X B u s wS (wx.setCell ⟨G, j, none⟩ (.int .i64 x)) c v ps r' := by
  obtain ⟨l1, l2, l3, l4⟩ := h.lt
  refine ⟨h.ap.set (p := ⟨G, j, none⟩) (.inl rfl) _, (h.row.set j x).congr hr, (heap_other wx _ (by omega)).trans h.x, own_keep h.own fun k hk => heap_other wx _ (by have := own_base5 h.own k hk; omega), by have := h.sz; simp [World.setCell]; omega, h.lt⟩
/-- The place's core is stored. -/
theorem RxSt.core {G X B : Nat} {u s c : Int} {wS wx : World} {v : Value} {ps : List Pc} {r : Nat → Nat} (h : RxSt G X B u s wS wx c v ps r) (x : Int) : RxSt G X B u s wS (wx.setCell ⟨X, 2, none⟩ (.int .i64 x)) x v ps r := by
  obtain ⟨l1, l2, l3, l4⟩ := h.lt
  refine ⟨h.ap.set (p := ⟨X, 2, none⟩) (.inr l4) _, h.row.same (heap_other wx _ (by omega)), heap_setCell_mem _ _ _ _ _ _ _ h.x, own_keep h.own fun k hk => heap_other wx _ (by have := own_base5 h.own k hk; omega), by have := h.sz; simp [World.setCell]; omega, h.lt⟩
/-- A piece more. -/
theorem RxSt.more {G X B : Nat} {u s c : Int} {wS wx wA : World} {v v2 : Value} {q : List Pc} {r : Nat → Nat} {y : Pc} (h : RxSt G X B u s wS wx c v q r) (ha : Apart (fun b => v.ownBlock = some b) wx wA)
    (hown : wA.ownsRow B 51 2 v2 (q.length + 1) (pcsCells q ++ [.int .i64 y.c, .int .u64 y.t])) : RxSt G X B u s wS (wA.setCell ⟨X, 3, none⟩ v2) c v2 (q ++ [y]) r := by
  obtain ⟨l1, l2, l3, l4⟩ := h.lt
  have hne : ∀ b, b ≤ X → ¬ v.ownBlock = some b := fun b hb e => by have := own_base5 h.own b e; omega
  have hx := (ha.block X (heap_lt h.x) (hne X (Nat.le_refl _))).trans h.x
  refine ⟨?_, (h.row.same (ha.block G h.row.lt (hne G (by omega)))).same (heap_other wA _ (by omega)), heap_setCell_mem _ _ _ _ _ _ _ hx, ?_, by have := h.sz; have := ha.size; simp [World.setCell]; omega, h.lt⟩
  · refine Apart.set (p := ⟨X, 3, none⟩) (h.ap.trans ha fun b hb e => ?_) (.inr l4) _
    have := own_base5 h.own b e
    omega
  · rw [List.length_append, List.length_singleton, pcsCells_snoc]
    exact own_keep hown fun k hk => heap_other wA _ (by have := own_base5 hown k hk; omega)
/-- The last piece's ticks are stored. -/
theorem RxSt.tick {G X B g d : Nat} {u s c : Int} {wS wx : World} {q : List Pc} {r : Nat → Nat} {e : Int} {t t' : Nat} (h : RxSt G X B u s wS wx c (.slice (some ⟨g, 0, none⟩) (q.length + 1) d) (q ++ [⟨e, t⟩]) r) :
    RxSt G X B u s wS (wx.setCell ⟨g, q.length * 2 + 1, none⟩ (.int .u64 t')) c (.slice (some ⟨g, 0, none⟩) (q.length + 1) d) (q ++ [⟨e, t'⟩]) r := by
  obtain ⟨l1, l2, l3, l4⟩ := h.lt
  have hg := own_base5 h.own g rfl
  have ho := h.own
  rw [List.length_append, List.length_singleton] at ho
  have h1 := (World.ownsRow.stored ho (q.length * 2 + 1) (.int .u64 t')).1
  refine ⟨h.ap.set (p := ⟨g, q.length * 2 + 1, none⟩) (.inr (by show wS.heap.size ≤ g; omega)) _, h.row.same (heap_other wx _ (by omega)), (heap_other wx _ (by omega)).trans h.x, ?_, by have := h.sz; simp [World.setCell]; omega, h.lt⟩
  rw [List.length_append, List.length_singleton]
  have e1 : (pcsCells (q ++ [⟨e, t⟩])).set (q.length * 2 + 1) (.int .u64 t') = pcsCells (q ++ [⟨e, t'⟩]) := by
    rw [pcsCells_snoc, pcsCells_snoc, List.set_append_right _ _ (by rw [pcsCells_length]; omega), pcsCells_length, Nat.add_sub_cancel_left]
    rfl
  rw [e1] at h1
  exact h1
/-- What the last piece says. -/
theorem RxSt.last {G X B : Nat} {u s c : Int} {wS wx : World} {v : Value} {q : List Pc} {r : Nat → Nat} {y : Pc} (h : RxSt G X B u s wS wx c v (q ++ [y]) r) :
    ∃ g d, v = .slice (some ⟨g, 0, none⟩) (q.length + 1) d ∧ wx.cell? ⟨g, q.length * 2, none⟩ = some (.int .i64 y.c) ∧ wx.cell? ⟨g, q.length * 2 + 1, none⟩ = some (.int .u64 y.t) ∧ wx.frozen? ⟨g, q.length * 2 + 1, none⟩ = false ∧ B ≤ g := by
  have ho := h.own
  rw [List.length_append, List.length_singleton] at ho
  have hb := own_base5 ho
  rcases id ho.2 with ⟨_, h0⟩ | ⟨g, d, cur, rfl, hg, hh, _⟩
  · exact absurd h0 (by omega)
  · have hc := World.ownsRow.cells ho (g := g) rfl
    have e1 : (pcsCells (q ++ [y]))[q.length * 2]? = some (.int .i64 y.c) := by
      rw [pcsCells_snoc, List.getElem?_append_right (by rw [pcsCells_length]; exact Nat.le_refl _), pcsCells_length, Nat.sub_self]
      rfl
    have e2 : (pcsCells (q ++ [y]))[q.length * 2 + 1]? = some (.int .u64 y.t) := by
      rw [pcsCells_snoc, List.getElem?_append_right (by rw [pcsCells_length]; omega), pcsCells_length, Nat.add_sub_cancel_left]
      rfl
    have h1 := hc _ _ e1
    have h2 := hc _ _ e2
    rw [Addr.add_lit, Nat.zero_add] at h1 h2
    exact ⟨g, d, rfl, h1, h2, World.ownsRow.frozenAt ho _, hb g rfl⟩
end Go.Proofs.Ytajgebcaobknoaa
