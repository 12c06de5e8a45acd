/-
  A slice that reads as a list of wants; a row of wants of a call's own; what calls answer.
  Conditions: none.
-/
import Derived.Test.YtpjmdnhoiobedaaProg
import Derived.WalkKit
import Derived.WalkLawsBesides
import Derived.Below
import Derived.Lib.Hide
import Derived.Handy
import Derived.ProofKit
import Derived.Deep.LoopGhost
import Derived.Deep.QuietTactic
import Derived.BigQuiet
import Derived.IntWalk
import Derived.LoopTactic
import Derived.OwnWalk
import Derived.Laws.MakeOwn
import Derived.Laws.Rows
import Derived.OpenShut
import Derived.Deep.RegionHeld3
import Derived.Deep.AppendLies
set_option linter.unusedVariables false
namespace Go.Proofs.Ytpjmdnhoiobedaa
open Go.RowKit

/-- A want: its unit and its share. -/
abbrev Sp := Int × Int
theorem Try.infoSpan : (Try.prog.info? 58).map (fun i => (i.zero, i.size, i.bytes)) = some (some (.agg #[.int .i64 0, .int .i64 0]), 2, 16) := by kernel_rfl
theorem Try.infoInt : (Try.prog.info? 3).map (fun i => (i.zero, i.size, i.bytes)) = some (some (.int .i64 0), 1, 8) := by kernel_rfl

/-- Two numbers lie at an address. -/
def PairAt (W : World) (b o : Nat) (p : Sp) : Prop := W.cell? ⟨b, o, none⟩ = some (.int .i64 p.1) ∧ W.cell? ⟨b, o + 1, none⟩ = some (.int .i64 p.2)

/-- The slice value reads as spans. -/
def SpansAt (W : World) (v : Value) (ps : List Sp) : Prop :=
  ∃ A c, v = .slice A ps.length c ∧ ps.length ≤ c ∧ ps.length ≤ 2000000 ∧ c ≤ 9223372036854775807 ∧
    (0 < ps.length → ∃ b off, A = some ⟨b, off, none⟩ ∧ b < W.heap.size ∧ ∀ (j : Nat) (p : Sp), ps[j]? = some p → PairAt W b (off + j * 2) p)
theorem SpansAt.nil (W : World) : SpansAt W (.slice none 0 0) [] := ⟨none, 0, rfl, Nat.le_refl _, by simp, by simp, fun h => absurd h (by simp)⟩
theorem SpansAt.len {W : World} {v : Value} {ps : List Sp} (h : SpansAt W v ps) : ps.length ≤ 2000000 := by obtain ⟨_, _, _, _, h, _⟩ := h; exact h
theorem PairAt.keep {W W' : World} {B b o : Nat} {p : Sp} (h : PairAt W b o p) (hb : Below B W W') (hlt : b < B) : PairAt W' b o p :=
  ⟨(hb.cell (p := ⟨b, o, none⟩) hlt).trans h.1, (hb.cell (p := ⟨b, o + 1, none⟩) hlt).trans h.2⟩
theorem SpansAt.keep {W W' : World} {v : Value} {ps : List Sp} (h : SpansAt W v ps) (hb : Below W.heap.size W W') : SpansAt W' v ps := by
  obtain ⟨A, c, h1, h2, h3, h4, h5⟩ := h
  refine ⟨A, c, h1, h2, h3, h4, fun hn => ?_⟩
  obtain ⟨b, off, e, hlt, hc⟩ := h5 hn
  exact ⟨b, off, e, Nat.lt_of_lt_of_le hlt hb.size, fun j x hx => (hc j x hx).keep hb hlt⟩
/-- The slice behind the first span. -/
theorem SpansAt.tail {W : World} {p : Sp} {ps : List Sp} {b off n c : Nat} (h : SpansAt W (.slice (some ⟨b, off, none⟩) n c) (p :: ps)) : SpansAt W (.slice (some ⟨b, off + 2, none⟩) (n - 1) (c - 1)) ps := by
  obtain ⟨A, c', h1, h2, h3, h4, h5⟩ := h
  injection h1 with g1 g2 g3
  subst g1 g2 g3
  simp only [List.length_cons] at *
  refine ⟨_, _, by rw [Nat.add_sub_cancel], by omega, by omega, by omega, fun hn => ?_⟩
  obtain ⟨b', off', e, hlt, hc⟩ := h5 (by omega)
  injection e with e
  injection e with e1 e2 e3
  subst e1 e2
  refine ⟨b, off + 2, rfl, hlt, fun j x hx => ?_⟩
  have := hc (j + 1) x (by simpa using hx)
  rwa [show off + (j + 1) * 2 = off + 2 + j * 2 by omega] at this

def spanCells (p : Sp) : List Value := [.int .i64 p.1, .int .i64 p.2]
def spansCells (ps : List Sp) : List Value := ps.flatMap spanCells
theorem spansCells_cons (p : Sp) (ps : List Sp) : spansCells (p :: ps) = .int .i64 p.1 :: .int .i64 p.2 :: spansCells ps := by simp [spansCells, spanCells]
theorem spansCells_append (ps qs : List Sp) : spansCells (ps ++ qs) = spansCells ps ++ spansCells qs := by simp [spansCells]
theorem spansCells_snoc (ps : List Sp) (p : Sp) : spansCells (ps ++ [p]) = spansCells ps ++ [.int .i64 p.1, .int .i64 p.2] := by
  simp [spansCells, spanCells]
theorem spansCells_length : ∀ (ps : List Sp), (spansCells ps).length = ps.length * 2
  | [] => rfl
  | p :: ps => by rw [spansCells_cons]; simp [spansCells_length ps]; omega
theorem spansCells_get : ∀ (ps : List Sp) (j : Nat) (p : Sp), ps[j]? = some p → (spansCells ps)[j * 2]? = some (.int .i64 p.1) ∧ (spansCells ps)[j * 2 + 1]? = some (.int .i64 p.2)
  | [], j, p, h => by simp at h
  | q :: ps, 0, p, h => by
    simp at h
    subst h
    exact ⟨rfl, rfl⟩
  | q :: ps, j + 1, p, h => by
    have h' : ps[j]? = some p := by simpa using h
    have ih := spansCells_get ps j p h'
    rw [spansCells_cons, show (j + 1) * 2 = j * 2 + 1 + 1 by omega]
    simpa using ih
theorem spansCells_one (ps : List Sp) : ∀ u ∈ spansCells ps, u.oneCell' = true := by
  intro u hu
  obtain ⟨p, _, hp⟩ := List.mem_flatMap.1 hu
  simp [spanCells] at hp
  rcases hp with rfl | rfl <;> rfl
/-- Where a cell of a row lies. -/
theorem spansCells_at {ps : List Sp} {k : Nat} {u : Value} (h : (spansCells ps)[k]? = some u) : ∃ j p, ps[j]? = some p ∧ ((k = j * 2 ∧ u = .int .i64 p.1) ∨ (k = j * 2 + 1 ∧ u = .int .i64 p.2)) := by
  have hk : k < ps.length * 2 := by rw [← spansCells_length]; exact (List.getElem?_eq_some_iff.1 h).1
  have hj : k / 2 < ps.length := by omega
  refine ⟨k / 2, ps[k / 2], List.getElem?_eq_getElem hj, ?_⟩
  obtain ⟨g1, g2⟩ := spansCells_get ps (k / 2) _ (List.getElem?_eq_getElem hj)
  rcases Nat.mod_two_eq_zero_or_one k with hm | hm
  · left
    have e : k = k / 2 * 2 := by omega
    refine ⟨e, ?_⟩
    rw [← e, h] at g1
    exact Option.some.inj g1
  · right
    have e : k = k / 2 * 2 + 1 := by omega
    refine ⟨e, ?_⟩
    rw [← e, h] at g2
    exact Option.some.inj g2
theorem spansCells_of {W : World} {b off : Nat} {ps : List Sp} (hc : ∀ (j : Nat) (p : Sp), ps[j]? = some p → PairAt W b (off + j * 2) p) : ∀ j u, (spansCells ps)[j]? = some u → W.cell? ⟨b, off + j, none⟩ = some u := by
  intro j u h
  obtain ⟨i, p, hp, ⟨rfl, rfl⟩ | ⟨rfl, rfl⟩⟩ := spansCells_at h
  · exact (hc i p hp).1
  · exact (hc i p hp).2
theorem spans_of_own {W : World} {base e : Nat} {v : Value} {ps : List Sp} (h : W.ownsRow base e 2 v ps.length (spansCells ps)) (hl : ps.length ≤ 2000000) : SpansAt W v ps := by
  obtain ⟨h1, h2⟩ := h
  rcases h2 with ⟨rfl, h0⟩ | ⟨g, cap, cur, rfl, hg, hh, hn, hc, hs, ht⟩
  · have : ps = [] := List.eq_nil_of_length_eq_zero h0
    subst this
    exact SpansAt.nil W
  · refine ⟨_, _, rfl, hn, hl, by unfold maxLen at hc; omega, fun _ => ⟨g, 0, rfl, ?_, fun j p hp => ?_⟩⟩
    · rcases Nat.lt_or_ge g W.heap.size with h' | h'
      · exact h'
      · rw [Array.getElem?_eq_none h'] at hh; cases hh
    · have hj : j < ps.length := (List.getElem?_eq_some_iff.1 hp).1
      obtain ⟨g1, g2⟩ := spansCells_get ps j p hp
      have key : ∀ (i : Nat) (u : Value), i < ps.length * 2 → (spansCells ps)[i]? = some u → W.cell? ⟨g, 0 + i, none⟩ = some u := by
        intro i u hi hu
        rw [Nat.zero_add, cell_of_row W g i _ _ (0, 0) hh, ← hu, ← ht, List.getElem?_take, if_pos hi]
        simp
      exact ⟨key _ _ (by omega) g1, key _ _ (by omega) g2⟩
/-- A row of a call's own that holds something: where it lies. -/
theorem own_lies {W : World} {base e : Nat} {v : Value} {ps : List Sp} (h : W.ownsRow base e 2 v ps.length (spansCells ps)) (hp : 0 < ps.length) :
    ∃ g cap, v = .slice (some ⟨g, 0, none⟩) ps.length cap ∧ base ≤ g ∧ g < W.heap.size ∧ ps.length ≤ cap ∧ cap ≤ maxLen ∧ (∀ j p, ps[j]? = some p → PairAt W g (j * 2) p) ∧ ∀ j, j < ps.length * 2 → W.frozen? ⟨g, j, none⟩ = false := by
  obtain ⟨h1, h2⟩ := h
  rcases h2 with ⟨rfl, h0⟩ | ⟨g, cap, cur, rfl, hg, hh, hn, hc, hs, ht⟩
  · omega
  · refine ⟨g, cap, rfl, hg, ?_, hn, hc, fun j p hpj => ?_, fun j _ => by simp [World.frozen?, hh]⟩
    · rcases Nat.lt_or_ge g W.heap.size with h' | h'
      · exact h'
      · rw [Array.getElem?_eq_none h'] at hh; cases hh
    · have hj : j < ps.length := (List.getElem?_eq_some_iff.1 hpj).1
      obtain ⟨g1, g2⟩ := spansCells_get ps j p hpj
      have key : ∀ (i : Nat) (u : Value), i < ps.length * 2 → (spansCells ps)[i]? = some u → W.cell? ⟨g, i, none⟩ = some u := by
        intro i u hi hu
        rw [cell_of_row W g i _ _ (0, 0) hh, ← hu, ← ht, List.getElem?_take, if_pos hi]
        simp
      exact ⟨key _ _ (by omega) g1, key _ _ (by omega) g2⟩
/-- A cell of a row of a call's own is stored into. -/
theorem own_set {W : World} {base e n g cap k : Nat} {xs : List Value} (h : W.ownsRow base e 2 (.slice (some ⟨g, 0, none⟩) n cap) n xs) (u : Value) :
    (W.setCell ⟨g, k, none⟩ u).ownsRow base e 2 (.slice (some ⟨g, 0, none⟩) n cap) n (xs.set k u) := by
  obtain ⟨h1, h2⟩ := h
  refine ⟨by rw [List.length_set]; exact h1, ?_⟩
  rcases h2 with ⟨h0, _⟩ | ⟨g', cap', cur, hv, hg, hh, hn, hc, hs, ht⟩
  · cases h0
  · injection hv with e1 e2 e3
    injection e1 with e1
    injection e1 with e1
    subst e1 e3
    refine .inr ⟨g, cap, cur.setIfInBounds k u, rfl, hg, ?_, hn, hc, by simpa using hs, ?_⟩
    · simp [World.setCell, Array.getElem?_modify, hh]
    · rw [← ht, Array.toList_setIfInBounds, List.take_set]
theorem spansCells_set : ∀ (ps : List Sp) (j : Nat) (p q : Sp), ps[j]? = some p → ((spansCells ps).set (j * 2) (.int .i64 q.1)).set (j * 2 + 1) (.int .i64 q.2) = spansCells (ps.set j q)
  | [], j, p, q, h => by simp at h
  | r :: ps, 0, p, q, h => by
    rw [List.set_cons_zero, spansCells_cons, spansCells_cons]
    rfl
  | r :: ps, j + 1, p, q, h => by
    rw [spansCells_cons, List.set_cons_succ, spansCells_cons, ← spansCells_set ps j p q (by simpa using h), show (j + 1) * 2 = j * 2 + 1 + 1 by omega]
    rfl
theorem spansCells_set2 : ∀ (ps : List Sp) (j : Nat) (p : Sp) (t : Int), ps[j]? = some p → (spansCells ps).set (j * 2 + 1) (.int .i64 t) = spansCells (ps.set j (p.1, t))
  | [], j, p, t, h => by simp at h
  | r :: ps, 0, p, t, h => by
    have : r = p := by simpa using h
    subst this
    rw [List.set_cons_zero, spansCells_cons, spansCells_cons]
    rfl
  | r :: ps, j + 1, p, t, h => by
    rw [spansCells_cons, show (j + 1) * 2 + 1 = (j * 2 + 1) + 1 + 1 by omega, List.set_cons_succ, List.set_cons_succ, spansCells_set2 ps j p t (by simpa using h), List.set_cons_succ, spansCells_cons]

/-- The cells of a span that was laid into a block of its own. -/
theorem news_two (W : World) (B : Nat) (hB : W.heap.size = B) (t : Nat) (a b : Int) : ∀ j u, [Value.int .i64 a, Value.int .i64 b][j]? = some u → (W.alloc (.cells #[.int .i64 a, .int .i64 b] t)).cell? ((⟨B, 0, none⟩ : Addr).add j) = some u := by
  subst hB
  exact World.news_of_block (heap_alloc_new W _)
theorem own_form {w : World} {base e size n : Nat} {v : Value} {xs : List Value} (h : w.ownsRow base e size v n xs) : ∃ A c, v = .slice A n c := by
  rcases h.2 with ⟨rfl, h0⟩ | ⟨g, cap, cur, rfl, _⟩
  · rw [h0]; exact ⟨_, _, rfl⟩
  · exact ⟨_, _, rfl⟩
theorem own_draw {w : World} {base e size n : Nat} {v : Value} {xs : List Value} (h : w.ownsRow base e size v n xs) (q : Nat) : (w.drewN q).ownsRow base e size v n xs := h
theorem below_grown5 {w w' : World} {row : Option Nat} {B : Nat} (hg : w.grownBy w' row) (hB : B ≤ w.heap.size) (hr : ∀ k, row = some k → B ≤ k) : Below B w w' := (Below.refl B w).grown hg hB hr
theorem own_base5 {w : World} {base e size n : Nat} {v : Value} {xs : List Value} (h : w.ownsRow base e size v n xs) : ∀ k, v.ownBlock = some k → base ≤ k := by
  intro k hk
  rcases h.2 with ⟨h1, _⟩ | ⟨g, cap, cur, h1, h2, _⟩
  · subst h1; cases hk
  · subst h1; cases hk; exact h2
theorem own_below5 {w w' : World} {base e size n : Nat} {v : Value} {xs : List Value} (h : w.ownsRow base e size v n xs) (hb : Below w.heap.size w w') : w'.ownsRow base e size v n xs := by
  obtain ⟨h1, h2⟩ := h
  refine ⟨h1, ?_⟩
  rcases h2 with h2 | ⟨g, cap, cur, hv, hg, hh, r⟩
  · exact .inl h2
  · exact .inr ⟨g, cap, cur, hv, hg, by rw [hb.block g (Array.getElem?_eq_some_iff.1 hh).1]; exact hh, r⟩
theorem own_mono5 {w : World} {base base' e size n : Nat} {v : Value} {xs : List Value} (h : w.ownsRow base e size v n xs) (hb : base' ≤ base) : w.ownsRow base' e size v n xs := by
  obtain ⟨h1, h2⟩ := h
  refine ⟨h1, ?_⟩
  rcases h2 with h2 | ⟨g, cap, cur, hv, hg, r⟩
  · exact .inl h2
  · exact .inr ⟨g, cap, cur, hv, Nat.le_trans hb hg, r⟩

/-- What a call answers that makes memory, and leaves all that was. -/
def RetB (v : Value) (w : World) (e : Ending) (w' : World) : Prop := e = .returned v ∧ Below w.heap.size w w'
/-- Spans that a call answers. -/
def RetS (ps : List Sp) (w : World) (e : Ending) (w' : World) : Prop := ∃ v, e = .returned v ∧ SpansAt w' v ps ∧ Below w.heap.size w w'
/-- A row of spans that a call answers, its own from 'base' on. -/
def RetO (base ty : Nat) (ps : List Sp) (w : World) (e : Ending) (w' : World) : Prop := ∃ v, e = .returned v ∧ w'.ownsRow base ty 2 v ps.length (spansCells ps) ∧ Below base w w'
theorem below_drewN {B : Nat} {a w : World} (h : Below B a w) (n : Nat) : Below B a (w.drewN n) := ⟨h.os, h.tape, h.output, h.size, h.block⟩
theorem ex_at {α : Type} {xs : List α} {k : Nat} (h : k < xs.length) : ∃ x, xs[k]? = some x := ⟨xs[k], List.getElem?_eq_getElem h⟩
end Go.Proofs.Ytpjmdnhoiobedaa
