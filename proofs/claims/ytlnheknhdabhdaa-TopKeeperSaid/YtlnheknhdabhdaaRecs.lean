/-
  Rows of records in memory, the program's and the document's: where their parts lie; one record more.
  Conditions: none.
-/
import Derived.Test.YtlnheknhdabhdaaFirst
import Derived.Test.YtlnheknhdabhdaaReader
set_option linter.unusedVariables false
namespace Go.Proofs.Ytlnheknhdabhdaa
open Go.RowKit

theorem Try.infoRec : (Try.prog.info? 33).map (fun i => (i.zero, i.size, i.bytes)) = some (some (.agg #[.int .i64 0, .int .i64 0, .slice none 0 0, .int .i64 0]), 4, 48) := by kernel_rfl
theorem Try.infoRef : (Try.prog.info? 35).map (fun i => (i.zero, i.size, i.bytes)) = some (some (.agg #[.int .i64 0, .int .i64 0, .slice none 0 0, .bool false]), 4, 48) := by kernel_rfl

def errV (ok : Bool) : Value := .int .i64 (if ok = true then 0 else 3)
def okV (ok : Bool) : Value := .bool ok

/-- The cells of records, each with where its body lies. -/
def recCells (F : Bool → Value) : List (Rc × Value) → List Value
  | [] => []
  | p :: l => [.int .i64 p.1.at_, .int .i64 p.1.len, p.2, F p.1.ok] ++ recCells F l
theorem recCells_length (F : Bool → Value) : ∀ l, (recCells F l).length = l.length * 4
  | [] => rfl
  | p :: l => by
    unfold recCells
    rw [List.length_append, recCells_length F l, List.length_cons]
    simp
    omega
theorem recCells_snoc (F : Bool → Value) (p : Rc × Value) : ∀ l, recCells F (l ++ [p]) = recCells F l ++ [.int .i64 p.1.at_, .int .i64 p.1.len, p.2, F p.1.ok]
  | [] => rfl
  | q :: l => by
    rw [List.cons_append]
    unfold recCells
    rw [recCells_snoc F p l, List.append_assoc]
theorem recCells_get (F : Bool → Value) : ∀ (l : List (Rc × Value)) (j : Nat) (p : Rc × Value), l[j]? = some p →
    (recCells F l)[j * 4]? = some (.int .i64 p.1.at_) ∧ (recCells F l)[j * 4 + 1]? = some (.int .i64 p.1.len) ∧ (recCells F l)[j * 4 + 2]? = some p.2 ∧ (recCells F l)[j * 4 + 3]? = some (F p.1.ok)
  | [], j, p, h => by cases h
  | q :: l, 0, p, h => by
    have e : q = p := by simpa using h
    subst e
    exact ⟨rfl, rfl, rfl, rfl⟩
  | q :: l, j + 1, p, h => by
    have h' : l[j]? = some p := by simpa using h
    have := recCells_get F l j p h'
    unfold recCells
    rw [List.getElem?_append_right (by simp; omega), List.getElem?_append_right (by simp; omega), List.getElem?_append_right (by simp; omega), List.getElem?_append_right (by simp; omega)]
    have e0 : (j + 1) * 4 - [Value.int .i64 q.1.at_, .int .i64 q.1.len, q.2, F q.1.ok].length = j * 4 := by simp; omega
    have e1 : (j + 1) * 4 + 1 - [Value.int .i64 q.1.at_, .int .i64 q.1.len, q.2, F q.1.ok].length = j * 4 + 1 := by simp; omega
    have e2 : (j + 1) * 4 + 2 - [Value.int .i64 q.1.at_, .int .i64 q.1.len, q.2, F q.1.ok].length = j * 4 + 2 := by simp; omega
    have e3 : (j + 1) * 4 + 3 - [Value.int .i64 q.1.at_, .int .i64 q.1.len, q.2, F q.1.ok].length = j * 4 + 3 := by simp; omega
    rw [e0, e1, e2, e3]
    exact this

/-- A row of records of a call's own; the bodies lie elsewhere. -/
def RecsOwn (T : TypeId) (F : Bool → Value) (W : World) (base : Nat) (v : Value) (l : List (Rc × Value)) : Prop :=
  W.ownsRow base T 4 v l.length (recCells F l) ∧ ∀ p ∈ l, BytesAt W p.2 p.1.body ∧ ∀ k, p.2.ownBlock = some k → v.ownBlock ≠ some k ∧ k < W.heap.size
theorem RecsOwn.nil (T : TypeId) (F : Bool → Value) (W : World) (base : Nat) : RecsOwn T F W base (.slice none 0 0) [] := ⟨World.ownsRow_nil W base _ 4, fun p h => by cases h⟩
theorem RecsOwn.keep {T : TypeId} {F : Bool → Value} {W W' : World} {base : Nat} {v : Value} {l : List (Rc × Value)} (h : RecsOwn T F W base v l) (hb : Below W.heap.size W W') : RecsOwn T F W' base v l :=
  ⟨own_below h.1 hb, fun p hp => ⟨(h.2 p hp).1.keep hb, fun k hk => ⟨((h.2 p hp).2 k hk).1, Nat.lt_of_lt_of_le ((h.2 p hp).2 k hk).2 hb.size⟩⟩⟩
theorem RecsOwn.lt {T : TypeId} {F : Bool → Value} {W : World} {base : Nat} {v : Value} {l : List (Rc × Value)} (h : RecsOwn T F W base v l) : ∀ k, v.ownBlock = some k → k < W.heap.size := by
  intro k hk
  rcases h.1.2 with ⟨h1, _⟩ | ⟨g, cap, cur, h1, _, h3, _⟩
  · subst h1; cases hk
  · subst h1; cases hk; exact heap_lt h3
/-- One record more. -/
theorem RecsOwn.more {T : TypeId} {F : Bool → Value} {W W0 W' : World} {base : Nat} {v v' : Value} {l : List (Rc × Value)} (h : RecsOwn T F W base v l) (hb : Below W.heap.size W W0) {r : Rc} {u : Value}
    (hown : W'.ownsRow base T 4 v' (l.length + 1) (recCells F l ++ [.int .i64 r.at_, .int .i64 r.len, u, F r.ok])) (hg : W0.grownBy W' v.ownBlock)
    (hloc : v'.ownBlock = v.ownBlock ∨ v'.ownBlock = some W0.heap.size) (hu : BytesAt W0 u r.body) (hub : ∀ k, u.ownBlock = some k → v.ownBlock ≠ some k ∧ k < W0.heap.size) : RecsOwn T F W' base v' (l ++ [(r, u)]) := by
  have hap : Apart (fun k => v.ownBlock = some k) W0 W' := ⟨hg.os, hg.tape, hg.output, hg.size, fun k hk hn => hg.block k hk (fun e => hn e.symm)⟩
  have hnew : ∀ (z : Value) (xs : List Nat), BytesAt W0 z xs → (∀ k, z.ownBlock = some k → v.ownBlock ≠ some k ∧ k < W0.heap.size) → BytesAt W' z xs ∧ ∀ k, z.ownBlock = some k → v'.ownBlock ≠ some k ∧ k < W'.heap.size := by
    intro z xs hz hk
    refine ⟨hz.apart hap (fun k e => (hk k e).1), fun k e => ⟨fun e' => ?_, Nat.lt_of_lt_of_le (hk k e).2 hg.size⟩⟩
    rcases hloc with h1 | h1
    · exact (hk k e).1 (by rw [← h1]; exact e')
    · rw [h1] at e'
      injection e' with e'
      have := (hk k e).2
      omega
  refine ⟨?_, fun p hp => ?_⟩
  · rw [recCells_snoc, List.length_append]
    exact hown
  · rcases List.mem_append.1 hp with hp | hp
    · exact hnew _ _ ((h.2 p hp).1.keep hb) (fun k e => ⟨((h.2 p hp).2 k e).1, Nat.lt_of_lt_of_le ((h.2 p hp).2 k e).2 hb.size⟩)
    · rw [List.mem_singleton.1 hp]
      exact hnew _ _ hu hub

/-- The value reads as records. -/
def RecsAt (F : Bool → Value) (W : World) (v : Value) (l : List (Rc × Value)) : Prop :=
  ∃ A c, v = .slice A l.length c ∧ l.length ≤ c ∧ c ≤ 9223372036854775807 ∧ (0 < l.length → ∃ g, A = some ⟨g, 0, none⟩ ∧ g < W.heap.size ∧ ∀ (j : Nat) (p : Rc × Value), l[j]? = some p →
    W.cell? ⟨g, j * 4, none⟩ = some (.int .i64 p.1.at_) ∧ W.cell? ⟨g, j * 4 + 1, none⟩ = some (.int .i64 p.1.len) ∧ W.cell? ⟨g, j * 4 + 2, none⟩ = some p.2 ∧ W.cell? ⟨g, j * 4 + 3, none⟩ = some (F p.1.ok)) ∧
    ∀ p ∈ l, BytesAt W p.2 p.1.body
theorem RecsAt.keep {F : Bool → Value} {W W' : World} {v : Value} {l : List (Rc × Value)} (h : RecsAt F W v l) (hb : Below W.heap.size W W') : RecsAt F W' v l := by
  obtain ⟨A, c, h1, h2, h3, h4, h5⟩ := h
  refine ⟨A, c, h1, h2, h3, fun hn => ?_, fun p hp => (h5 p hp).keep hb⟩
  obtain ⟨g, e, hlt, hc⟩ := h4 hn
  refine ⟨g, e, Nat.lt_of_lt_of_le hlt hb.size, fun j p hp => ?_⟩
  obtain ⟨c0, c1, c2, c3⟩ := hc j p hp
  exact ⟨(hb.cell (p := ⟨g, j * 4, none⟩) hlt).trans c0, (hb.cell (p := ⟨g, j * 4 + 1, none⟩) hlt).trans c1, (hb.cell (p := ⟨g, j * 4 + 2, none⟩) hlt).trans c2, (hb.cell (p := ⟨g, j * 4 + 3, none⟩) hlt).trans c3⟩
theorem RecsOwn.at_ {T : TypeId} {F : Bool → Value} {W : World} {base : Nat} {v : Value} {l : List (Rc × Value)} (h : RecsOwn T F W base v l) : RecsAt F W v l := by
  obtain ⟨⟨h1, h2⟩, h3⟩ := h
  rcases h2 with ⟨rfl, h0⟩ | ⟨g, cap, cur, rfl, hg, hh, hn, hc, hs, ht⟩
  · exact ⟨none, 0, by rw [h0], by omega, by decide, fun h => by omega, fun p hp => (h3 p hp).1⟩
  · refine ⟨_, _, rfl, hn, by unfold maxLen at hc; omega, fun _ => ⟨g, rfl, heap_lt hh, fun j p hp => ?_⟩, fun p hp => (h3 p hp).1⟩
    have hj : j < l.length := (List.getElem?_eq_some_iff.1 hp).1
    obtain ⟨d0, d1, d2, d3⟩ := recCells_get F l j p hp
    have key : ∀ i, i < l.length * 4 → cur[i]? = (recCells F l)[i]? := fun i hi => by
      rw [← ht, List.getElem?_take, if_pos hi]
      simp
    refine ⟨?_, ?_, ?_, ?_⟩ <;> rw [cell_of_row W g _ _ _ (0, 0) hh, key _ (by omega)] <;> assumption

/-- Records that a call answers. -/
def RetRecs (F : Bool → Value) (rs : List Rc) (w : World) (e : Ending) (w' : World) : Prop := ∃ v l, e = .returned v ∧ l.map Prod.fst = rs ∧ RecsAt F w' v l ∧ Below w.heap.size w w'
theorem news_four (W : World) (B : Nat) (hB : W.heap.size = B) (t : Nat) (a b c d : Value) : ∀ j u, [a, b, c, d][j]? = some u → (W.alloc (.cells #[a, b, c, d] t)).cell? ((⟨B, 0, none⟩ : Addr).add j) = some u := by
  subst hB
  exact World.news_of_block (heap_alloc_new W _)
theorem new_four (W : World) (t : Nat) (a b c d : Value) : (W.alloc (.cells #[a, b, c, d] t)).cell? ⟨W.heap.size, 0, none⟩ = some a ∧ (W.alloc (.cells #[a, b, c, d] t)).cell? ⟨W.heap.size, 1, none⟩ = some b ∧ (W.alloc (.cells #[a, b, c, d] t)).cell? ⟨W.heap.size, 2, none⟩ = some c ∧ (W.alloc (.cells #[a, b, c, d] t)).cell? ⟨W.heap.size, 3, none⟩ = some d :=
  ⟨World.cell?_alloc_new _ _ _ _, World.cell?_alloc_new _ _ _ _, World.cell?_alloc_new _ _ _ _, World.cell?_alloc_new _ _ _ _⟩
end Go.Proofs.Ytlnheknhdabhdaa
