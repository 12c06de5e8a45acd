/-
  A slice that reads as rows of ints; rows of a call's own, each with where it lies; one row more.
  Conditions: none.
-/
import Derived.Test.YtaffcpjhaacadaaInts
import Derived.Test.YtaffcpjhaacadaaReader
import Derived.Maps.AppendAt
set_option linter.unusedVariables false
namespace Go.Proofs.Ytaffcpjhaacadaa
open Go.RowKit

/-- The rows themselves. -/
abbrev rowsOf (ls : List (Value × List Int)) : List (List Int) := ls.map Prod.snd

/-- The value reads as slices that read as ints. -/
def RowsAt (W : World) (v : Value) (ls : List (Value × List Int)) : Prop :=
  ∃ A c, v = .slice A ls.length c ∧ ls.length ≤ c ∧ c ≤ 9223372036854775807 ∧
    (0 < ls.length → ∃ b off, A = some ⟨b, off, none⟩ ∧ b < W.heap.size ∧ ∀ (j : Nat) (p : Value × List Int), ls[j]? = some p → W.cell? ⟨b, off + j, none⟩ = some p.1) ∧ ∀ p ∈ ls, IntsAt W p.1 p.2
theorem RowsAt.nil (W : World) : RowsAt W (.slice none 0 0) [] := ⟨none, 0, rfl, Nat.le_refl _, by decide, fun h => absurd h (by decide), fun p hp => by cases hp⟩
theorem RowsAt.keep {W W' : World} {v : Value} {ls : List (Value × List Int)} (h : RowsAt W v ls) (hb : Below W.heap.size W W') : RowsAt W' v ls := by
  obtain ⟨A, c, h1, h2, h3, h4, h5⟩ := h
  refine ⟨A, c, h1, h2, h3, fun hn => ?_, fun p hp => (h5 p hp).keep hb⟩
  obtain ⟨b, off, e, hlt, hc⟩ := h4 hn
  exact ⟨b, off, e, Nat.lt_of_lt_of_le hlt hb.size, fun j p hp => (hb.cell (p := ⟨b, off + j, none⟩) hlt).trans (hc j p hp)⟩
theorem RowsAt.form {W : World} {v : Value} {ls : List (Value × List Int)} (h : RowsAt W v ls) : ∃ A c, v = .slice A ls.length c ∧ ls.length ≤ c := by
  obtain ⟨A, c, h1, h2, _⟩ := h
  exact ⟨A, c, h1, h2⟩
theorem RowsAt.bound {W : World} {v : Value} {ls : List (Value × List Int)} (h : RowsAt W v ls) : ls.length ≤ 9223372036854775807 := by
  obtain ⟨A, c, h1, h2, h3, _⟩ := h
  omega
theorem exR_at {ls : List (Value × List Int)} {k : Nat} (h : k < ls.length) : ∃ p, ls[k]? = some p := ⟨ls[k], List.getElem?_eq_getElem h⟩
/-- Row k: its slice's cell, and what it reads as. -/
theorem RowsAt.row {W : World} {v : Value} {ls : List (Value × List Int)} (h : RowsAt W v ls) {k : Nat} (hk : k < ls.length) :
    ∃ b off c B n d xs, v = .slice (some ⟨b, off, none⟩) ls.length c ∧ ls[k]? = some (.slice B n d, xs) ∧ xs.length = n ∧ W.cell? ⟨b, off + k, none⟩ = some (.slice B n d) ∧ IntsAt W (.slice B n d) xs := by
  obtain ⟨A, c, rfl, h2, h3, h4, h5⟩ := h
  obtain ⟨b, off, rfl, hlt, hc⟩ := h4 (by omega)
  obtain ⟨p, hp⟩ := exR_at hk
  have hi := h5 p (List.mem_of_getElem? hp)
  have hcell := hc k p hp
  obtain ⟨u, xs⟩ := p
  obtain ⟨B, d, hu⟩ := hi.form
  simp only at hu hi hcell
  subst hu
  exact ⟨b, off, c, B, xs.length, d, xs, rfl, hp, rfl, hcell, hi⟩
theorem RowsAt.addr {W : World} {A : Option Addr} {n c : Nat} {ls : List (Value × List Int)} (h : RowsAt W (.slice A n c) ls) (h0 : 0 < ls.length) : ∃ b off, A = some ⟨b, off, none⟩ := by
  obtain ⟨A0, c0, e, h2, h3, h4, h5⟩ := h
  injection e with e1 e2 e3
  subst e1
  obtain ⟨b, off, h, _⟩ := h4 h0
  exact ⟨b, off, h⟩
theorem RowsAt.row_at {W : World} {b off n c : Nat} {ls : List (Value × List Int)} (h : RowsAt W (.slice (some ⟨b, off, none⟩) n c) ls) {k : Nat} (hk : k < ls.length) :
    ∃ B m d xs, ls[k]? = some (.slice B m d, xs) ∧ xs.length = m ∧ W.cell? ⟨b, off + k, none⟩ = some (.slice B m d) ∧ IntsAt W (.slice B m d) xs := by
  obtain ⟨b', off', c', B, m, d, xs, e, h1, h2, h3, h4⟩ := h.row hk
  injection e with e1 e2 e3
  injection e1 with e1
  injection e1 with e1 e4 _
  subst e1 e4
  exact ⟨B, m, d, xs, h1, h2, h3, h4⟩
theorem RowsAt.blk {W : World} {b off n c : Nat} {ls : List (Value × List Int)} (h : RowsAt W (.slice (some ⟨b, off, none⟩) n c) ls) (h0 : 0 < ls.length) : b < W.heap.size := by
  obtain ⟨A0, c0, e, h2, h3, h4, h5⟩ := h
  injection e with e1 e2 e3
  subst e1
  obtain ⟨b', off', h, hlt, _⟩ := h4 h0
  injection h with h
  injection h with h _ _
  omega
theorem RowsAt.draw {W : World} {v : Value} {ls : List (Value × List Int)} (h : RowsAt W v ls) (q : Nat) : RowsAt (W.drewN q) v ls := h.keep (below_drewN (Below.refl _ _) q)
theorem snd_at {ls : List (Value × List Int)} {k : Nat} {p : Value × List Int} (h : ls[k]? = some p) : (rowsOf ls)[k]? = some p.2 := by
  rw [List.getElem?_map, h]; rfl
theorem rowsOf_snoc (ls : List (Value × List Int)) (p : Value × List Int) : rowsOf (ls ++ [p]) = rowsOf ls ++ [p.2] := by simp
theorem rowsOf_length (ls : List (Value × List Int)) : (rowsOf ls).length = ls.length := by simp

/-- What is left behind the first k rows: where the room ends there, and where it does not. -/
theorem RowsAt.end_ {W : World} {A : Option Addr} {n c : Nat} {ls : List (Value × List Int)} (h : RowsAt W (.slice A n c) ls) {k : Nat} (hk : k ≤ ls.length) (hc : c = k) : RowsAt W (.slice A (n - k) 0) (ls.drop k) := by
  obtain ⟨A0, c0, e, h2, h3, h4, h5⟩ := h
  injection e with e1 e2 e3
  subst e1 e2 e3
  subst hc
  have e : ls.drop c = [] := List.drop_of_length_le h2
  rw [e, show ls.length - c = 0 by omega]
  exact ⟨A, 0, rfl, Nat.le_refl _, by decide, fun h => absurd h (by decide), fun p hp => by cases hp⟩
theorem RowsAt.more_ {W : World} {b off n c : Nat} {ls : List (Value × List Int)} (h : RowsAt W (.slice (some ⟨b, off, none⟩) n c) ls) {k : Nat} (hk : k ≤ ls.length) : RowsAt W (.slice (some ⟨b, off + k, none⟩) (n - k) (c - k)) (ls.drop k) := by
  obtain ⟨A0, c0, e, h2, h3, h4, h5⟩ := h
  injection e with e1 e2 e3
  subst e1 e2 e3
  refine ⟨_, c - k, by rw [List.length_drop], by rw [List.length_drop]; omega, by omega, fun hp => ?_, fun p hp => h5 p (List.mem_of_mem_drop hp)⟩
  rw [List.length_drop] at hp
  obtain ⟨b', off', e, hlt, hc⟩ := h4 (by omega)
  injection e with e
  injection e with e1 e2 _
  subst e1 e2
  refine ⟨b, off + k, rfl, hlt, fun j x hx => ?_⟩
  rw [List.getElem?_drop] at hx
  rw [Nat.add_assoc]
  exact hc _ x hx

theorem Try.infoRow : (Try.prog.info? 39).map (fun i => (i.zero, i.size, i.bytes)) = some (some (.slice none 0 0), 1, 24) := by kernel_rfl

/-- Rows of a call's own; each row lies elsewhere. -/
def RowsOwn (W : World) (base : Nat) (v : Value) (ls : List (Value × List Int)) : Prop :=
  W.ownsRow base 39 1 v ls.length (ls.map Prod.fst) ∧ ∀ p ∈ ls, IntsAt W p.1 p.2 ∧ ∀ k, p.1.ownBlock = some k → v.ownBlock ≠ some k ∧ base ≤ k ∧ k < W.heap.size
theorem RowsOwn.nil (W : World) (base : Nat) : RowsOwn W base (.slice none 0 0) [] := ⟨World.ownsRow_nil W base _ 1, fun p h => by cases h⟩
theorem ownsRow_below {W W' : World} {base : Nat} {T : TypeId} {s : Nat} {v : Value} {n : Nat} {xs : List Value} (h : W.ownsRow base T s v n xs) (hb : Below W.heap.size W W') : W'.ownsRow base T s v n xs := by
  refine ⟨h.1, ?_⟩
  rcases h.2 with h1 | ⟨g, cap, cur, h1, h2, h3, r⟩
  · exact .inl h1
  · exact .inr ⟨g, cap, cur, h1, h2, (hb.block g (heap_lt h3)).trans h3, r⟩
theorem RowsOwn.keep {W W' : World} {base : Nat} {v : Value} {ls : List (Value × List Int)} (h : RowsOwn W base v ls) (hb : Below W.heap.size W W') : RowsOwn W' base v ls :=
  ⟨ownsRow_below h.1 hb, fun p hp => ⟨(h.2 p hp).1.keep hb, fun k hk => ⟨((h.2 p hp).2 k hk).1, ((h.2 p hp).2 k hk).2.1, Nat.lt_of_lt_of_le ((h.2 p hp).2 k hk).2.2 hb.size⟩⟩⟩
theorem RowsOwn.lt {W : World} {base : Nat} {v : Value} {ls : List (Value × List Int)} (h : RowsOwn W base v ls) : ∀ k, v.ownBlock = some k → base ≤ k ∧ k < W.heap.size := by
  intro k hk
  rcases h.1.2 with ⟨h1, _⟩ | ⟨g, cap, cur, h1, h2, h3, _⟩
  · subst h1; cases hk
  · subst h1; cases hk; exact ⟨h2, heap_lt h3⟩
theorem RowsOwn.form {W : World} {base : Nat} {v : Value} {ls : List (Value × List Int)} (h : RowsOwn W base v ls) : ∃ A c, v = .slice A ls.length c := by
  rcases h.1.2 with ⟨h1, h0⟩ | ⟨g, cap, cur, h1, _⟩
  · exact ⟨none, 0, by rw [h1, h0]⟩
  · exact ⟨_, cap, h1⟩
theorem IntsAt.apart {F : Nat → Prop} {W W' : World} {v : Value} {xs : List Int} (h : IntsAt W v xs) (ha : Apart F W W') (hF : ∀ k, v.ownBlock = some k → ¬ F k) : IntsAt W' v xs := by
  obtain ⟨A, c, rfl, h2, h3⟩ := h
  refine ⟨A, c, rfl, h2, fun hn => ?_⟩
  obtain ⟨b, off, e, hlt, hc⟩ := h3 hn
  subst e
  refine ⟨b, off, rfl, Nat.lt_of_lt_of_le hlt ha.size, fun j x hx => ?_⟩
  have e := ha.block b hlt (hF b rfl)
  rw [← hc j x hx]
  simp [World.cell?, e]
/-- What changes in some blocks leaves the rows that lie elsewhere. -/
theorem RowsOwn.apart {F : Nat → Prop} {W W' : World} {base : Nat} {v : Value} {ls : List (Value × List Int)} (h : RowsOwn W base v ls) (ha : Apart F W W') (hF : ∀ k, base ≤ k → ¬ F k) : RowsOwn W' base v ls := by
  refine ⟨⟨h.1.1, ?_⟩, fun p hp => ⟨(h.2 p hp).1.apart ha (fun k hk => hF k ((h.2 p hp).2 k hk).2.1), fun k hk => ⟨((h.2 p hp).2 k hk).1, ((h.2 p hp).2 k hk).2.1, Nat.lt_of_lt_of_le ((h.2 p hp).2 k hk).2.2 ha.size⟩⟩⟩
  rcases h.1.2 with h1 | ⟨g, cap, cur, h1, h2, h3, r⟩
  · exact .inl h1
  · exact .inr ⟨g, cap, cur, h1, h2, (ha.block g (heap_lt h3) (hF g h2)).trans h3, r⟩
/-- One row more. -/
theorem RowsOwn.more {W W0 W' : World} {base : Nat} {v v' : Value} {ls : List (Value × List Int)} (h : RowsOwn W base v ls) (hb : Below W.heap.size W W0) {xs : List Int} {u : Value}
    (hown : W'.ownsRow base 39 1 v' (ls.length + 1) (ls.map Prod.fst ++ [u])) (hg : W0.grownBy W' v.ownBlock)
    (hloc : v'.ownBlock = v.ownBlock ∨ v'.ownBlock = some W0.heap.size) (hu : IntsAt W0 u xs) (hub : ∀ k, u.ownBlock = some k → v.ownBlock ≠ some k ∧ base ≤ k ∧ k < W0.heap.size) : RowsOwn W' base v' (ls ++ [(u, xs)]) := by
  have hap : Apart (fun k => v.ownBlock = some k) W0 W' := ⟨hg.os, hg.tape, hg.output, hg.size, fun k hk hn => hg.block k hk (fun e => hn e.symm)⟩
  have hnew : ∀ (z : Value) (xs : List Int), IntsAt W0 z xs → (∀ k, z.ownBlock = some k → v.ownBlock ≠ some k ∧ base ≤ k ∧ k < W0.heap.size) → IntsAt W' z xs ∧ ∀ k, z.ownBlock = some k → v'.ownBlock ≠ some k ∧ base ≤ k ∧ k < W'.heap.size := by
    intro z xs hz hk
    refine ⟨hz.apart hap (fun k e => (hk k e).1), fun k e => ⟨fun e' => ?_, (hk k e).2.1, Nat.lt_of_lt_of_le (hk k e).2.2 hg.size⟩⟩
    rcases hloc with h1 | h1
    · exact (hk k e).1 (by rw [← h1]; exact e')
    · rw [h1] at e'
      injection e' with e'
      have := (hk k e).2.2
      omega
  refine ⟨?_, fun p hp => ?_⟩
  · rw [List.length_append, List.map_append]
    exact hown
  · rcases List.mem_append.1 hp with hp | hp
    · exact hnew _ _ ((h.2 p hp).1.keep hb) (fun k e => ⟨((h.2 p hp).2 k e).1, ((h.2 p hp).2 k e).2.1, Nat.lt_of_lt_of_le ((h.2 p hp).2 k e).2.2 hb.size⟩)
    · rw [List.mem_singleton.1 hp]
      exact hnew _ _ hu hub
theorem RowsOwn.at_ {W : World} {base : Nat} {v : Value} {ls : List (Value × List Int)} (h : RowsOwn W base v ls) : RowsAt W v ls := by
  obtain ⟨⟨h1, h2⟩, h3⟩ := h
  rcases h2 with ⟨rfl, h0⟩ | ⟨g, cap, cur, rfl, hg, hh, hn, hc, hs, ht⟩
  · exact ⟨none, 0, by rw [h0], by omega, by decide, fun h => by omega, fun p hp => (h3 p hp).1⟩
  · refine ⟨_, _, rfl, hn, by unfold maxLen at hc; omega, fun _ => ⟨g, 0, rfl, heap_lt hh, fun j p hp => ?_⟩, fun p hp => (h3 p hp).1⟩
    have hj : j < ls.length := (List.getElem?_eq_some_iff.1 hp).1
    rw [Nat.zero_add, cell_of_row W g j _ _ (0, 0) hh]
    have : (cur.toList.take (ls.length * 1))[j]? = some p.1 := by rw [ht, List.getElem?_map, hp]; rfl
    rw [List.getElem?_take, if_pos (by omega)] at this
    rw [← this]
    simp
theorem RowsOwn.weaken {W : World} {base base' : Nat} {v : Value} {ls : List (Value × List Int)} (h : RowsOwn W base v ls) (hb : base' ≤ base) : RowsOwn W base' v ls := by
  refine ⟨⟨h.1.1, ?_⟩, fun p hp => ⟨(h.2 p hp).1, fun k hk => ⟨((h.2 p hp).2 k hk).1, by have := ((h.2 p hp).2 k hk).2.1; omega, ((h.2 p hp).2 k hk).2.2⟩⟩⟩
  rcases h.1.2 with h1 | ⟨g, cap, cur, h1, h2, r⟩
  · exact .inl h1
  · exact .inr ⟨g, cap, cur, h1, by omega, r⟩
theorem apart_grown {w w' : World} {v : Value} (h : w.grownBy w' v.ownBlock) : Apart (fun k => v.ownBlock = some k) w w' := ⟨h.os, h.tape, h.output, h.size, fun k hk hn => h.block k hk (fun e => hn e.symm)⟩

/-- What is changed at B or above leaves what was there before B. -/
theorem Apart.then_below {F : Nat → Prop} {B : Nat} {a b c : World} (h : Apart F a b) (hb : Below B b c) (hB : a.heap.size ≤ B) : Apart F a c :=
  h.trans (F' := fun k => B ≤ k) ⟨hb.os, hb.tape, hb.output, hb.size, fun k _ hn => hb.block k (by omega)⟩ (fun x hx e => by omega)

/-- One row is appended to rows of the call's own. -/
theorem wpList_append_row {P : Program} {w : World} {ops : Array Oper} {rest : List Oper} {o : Oper} {a : Act} {Q : Exit → Act → World → Prop} (hgd : o.guard = none) (s x : Operand) (t : TypeId)
    (ho : o.op = .call { callee := .builtin .append, args := #[s, x], argTypes := #[t, t] })
    (base : Nat) (ht : P.underlying t = some (.slice 39)) (hi0 : (P.info? 39).map (fun i => (i.zero, i.size, i.bytes)) = some (some (.slice none 0 0), 1, 24))
    (v : Value) (ls : List (Value × List Int)) (hs : a.eval s = v) (hown : RowsOwn w base v ls) (b c : Nat) (B : Option Addr) (n d : Nat) (xs : List Int) (hx : a.eval x = .slice (some ⟨b, 0, none⟩) 1 c) (hy : w.cell? ⟨b, 0, none⟩ = some (.slice B n d))
    (hu : IntsAt w (.slice B n d) xs) (hub : ∀ k, (Value.slice B n d).ownBlock = some k → v.ownBlock ≠ some k ∧ base ≤ k ∧ k < w.heap.size)
    (hl : ls.length ≤ 1000000) (hb : base ≤ w.heap.size)
    (h : ∀ v' w', RowsOwn w' base v' (ls ++ [(.slice B n d, xs)]) → Below base w w' → (v'.ownBlock = v.ownBlock ∨ v'.ownBlock = some w.heap.size) → Apart (fun k => v.ownBlock = some k) w w' → wpList P ops Q rest (a.put o.dst v') w') : wpList P ops Q (o :: rest) a w := by
  obtain ⟨i, hi, hz0, hz1, hz2⟩ := info_parts hi0
  refine wpList_append_own_at w hgd s x t ho base 39 i (.slice none 0 0) 1 24 ht hi hz0 hz1 hz2 rfl (by decide) v ls.length _ hs hown.1 ⟨b, 0, none⟩ 1 c [.slice B n d] hx rfl ?_ ?_ (by unfold maxLen; omega) (by omega) hb ?_
  · intro j u hj
    rcases j with _ | j
    · have e : Value.slice B n d = u := by simpa using hj
      subst e
      rw [Addr.add_lit]
      exact hy
    · simp at hj
  · intro u hu
    have e : u = Value.slice B n d := by simpa using hu
    subst e
    rfl
  · intro v' w' h1 h2 h3 h4
    exact h v' w' (hown.more (Below.refl _ _) h1 h2 h4 hu hub) (below_grown h2 hb (fun k hk => (hown.lt k hk).1)) h4 (apart_grown h2)
end Go.Proofs.Ytaffcpjhaacadaa
