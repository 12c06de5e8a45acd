/-
  What the program's error and the reference's chain are behind some steps, in memory; how that stays over stores into the law's own variables.
  Conditions: none beyond those that each statement lists.
-/
import Derived.Test.YtciebpijdgdcjaaDoorOrders
import Derived.Test.YtciebpijdgdcjaaDoorSteps
namespace Go.Proofs.YtciebpijdgdcjaaDoor
open Go.RowKit Go.Extern.Stop Go.Stop Go.Extern

def keyOk (x : Key) : Prop := I64 x.1 ∧ I64 x.2.2 ∧ x.2.1.size ≤ 60 ∧ (x.1 == 0) = false

/-- Both, behind k steps, whose links are o. -/
structure Good (base : Nat) (wr : World) (o : Option (List Key)) (E : Value) (s : Bool) (lv : Value) (is js : List Item) (k : Nat) : Prop where
  chain : Chain wr.heap.size wr E is
  eres : ERes o E is
  row : RAt base wr lv js
  nils : js = [] → lv = .slice none 0 0
  rres : RRes o s js
  ok : ∀ ks, o = some ks → ∀ x ∈ ks, keyOk x
  len : ∀ ks, o = some ks → ks.length ≤ k

theorem Good.later {base : Nat} {w w' : World} {o : Option (List Key)} {E : Value} {s : Bool} {lv : Value} {is js : List Item} {k : Nat} (h : Good base w o E s lv is js k) (hb : Below w.heap.size w w') : Good base w' o E s lv is js k :=
  ⟨h.chain.later hb, h.eres, h.row.kept hb, h.nils, h.rres, h.ok, h.len⟩

theorem Good.up {base : Nat} {w : World} {o : Option (List Key)} {E : Value} {s : Bool} {lv : Value} {is js : List Item} {k : Nat} (h : Good base w o E s lv is js k) : Good base w o E s lv is js (k + 1) :=
  ⟨h.chain, h.eres, h.row, h.nils, h.rres, h.ok, fun ks e => Nat.le_succ_of_le (h.len ks e)⟩

theorem RRes.len {o : Option (List Key)} {s : Bool} {js : List Item} (h : RRes o s js) {k : Nat} (hl : ∀ ks, o = some ks → ks.length ≤ k) : js.length ≤ k := by
  cases o with
  | none => rw [h.2]; exact Nat.zero_le _
  | some ks => have := hl ks rfl; rw [← h.2, List.length_map] at this; exact this
theorem ERes.len {o : Option (List Key)} {E : Value} {is : List Item} (h : ERes o E is) {k : Nat} (hl : ∀ ks, o = some ks → ks.length ≤ k) : is.length ≤ k := by
  cases o with
  | none => rw [h.2]; exact Nat.zero_le _
  | some ks => have := hl ks rfl; rw [← h.2, List.length_map] at this; exact this

theorem head_code {o : Option (List Key)} (h : ∀ ks, o = some ks → ∀ x ∈ ks, keyOk x) : ∀ ks, o = some ks → (headCode ks == 0) = false := by
  intro ks e
  cases ks with
  | nil => rfl
  | cons x ks => exact (h _ e x (List.mem_cons_self ..)).2.2.2

theorem head_i64 {ks : List Key} (h : ∀ x ∈ ks, keyOk x) : I64 (headCode ks) := by
  cases ks with
  | nil => exact ⟨by decide, by decide⟩
  | cons x ks => exact (h x (List.mem_cons_self ..)).1

theorem ok_new {c pos : Int} {part : ByteArray} (h1 : I64 c) (h2 : I64 pos) (h3 : part.size ≤ 60) : ∀ ks, newO c part pos = some ks → ∀ x ∈ ks, keyOk x := by
  intro ks e x hx
  unfold newO at e
  split at e
  · cases e
  · rename_i hc
    cases e
    obtain rfl := List.mem_singleton.1 hx
    exact ⟨h1, h2, h3, by simpa using hc⟩

theorem ok_wrap {o : Option (List Key)} {pos : Int} {part : ByteArray} (h : ∀ ks, o = some ks → ∀ x ∈ ks, keyOk x) (h2 : I64 pos) (h3 : part.size ≤ 60) : ∀ ks, wrapO part pos o = some ks → ∀ x ∈ ks, keyOk x := by
  intro ks e x hx
  cases o with
  | none => cases e
  | some ks0 =>
    cases e
    rcases List.mem_cons.1 hx with rfl | hx
    · exact ⟨head_i64 (h _ rfl), h2, h3, head_code h _ rfl⟩
    · exact h _ rfl x hx

theorem ok_turn {o : Option (List Key)} {c pos : Int} {part : ByteArray} (h : ∀ ks, o = some ks → ∀ x ∈ ks, keyOk x) (h1 : I64 c) (h2 : I64 pos) (h3 : part.size ≤ 60) : ∀ ks, turnO c part pos o = some ks → ∀ x ∈ ks, keyOk x := by
  unfold turnO
  split
  · exact ok_wrap h h2 h3
  · rename_i hc
    intro ks e x hx
    cases o with
    | none => cases e
    | some ks0 =>
      cases e
      rcases List.mem_cons.1 hx with rfl | hx
      · exact ⟨h1, h2, h3, by simpa using hc⟩
      · exact h _ rfl x hx

theorem len_new {c pos : Int} {part : ByteArray} {k : Nat} : ∀ ks, newO c part pos = some ks → ks.length ≤ k + 1 := by
  intro ks e
  unfold newO at e
  split at e
  · cases e
  · cases e; simp

theorem len_wrap {o : Option (List Key)} {pos : Int} {part : ByteArray} {k : Nat} (h : ∀ ks, o = some ks → ks.length ≤ k) : ∀ ks, wrapO part pos o = some ks → ks.length ≤ k + 1 := by
  intro ks e
  cases o with
  | none => cases e
  | some ks0 => cases e; have := h _ rfl; simp; omega

theorem len_turn {o : Option (List Key)} {c pos : Int} {part : ByteArray} {k : Nat} (h : ∀ ks, o = some ks → ks.length ≤ k) : ∀ ks, turnO c part pos o = some ks → ks.length ≤ k + 1 := by
  unfold turnO
  split
  · exact len_wrap h
  · intro ks e
    cases o with
    | none => cases e
    | some ks0 => cases e; have := h _ rfl; simp; omega

theorem Chain.setOther {B : Nat} {w : World} {v : Value} {is : List Item} (c : Chain B w v is) {b : Nat} {cs : Array Value} {T : TypeId} {fr : Nat × Nat} (hb : w.heap[b]? = some (.cells cs T fr)) (hT : T ≠ 56) (o : Nat) (x : Value) : Chain B (w.setCell ⟨b, o, none⟩ x) v is := by
  induction c with
  | nil => exact .nil
  | alien n => exact .alien n
  | around hv _ ih => exact .around hv ih
  | fault i hi hc _ ih =>
    refine .fault i hi ?_ ih
    rw [Below.heap_setCell _ _ _ _ (by
      intro e
      have e' : i.b = b := e
      rw [e', hb] at hc
      cases hc
      exact hT rfl)]
    exact hc

/-- The law's variable, behind its two stores. -/
def bothW (w : World) (bb : Nat) (E : Value) (s : Bool) (lv : Value) : World := ((w.setCell ⟨bb, 0, none⟩ E).setCell ⟨bb, 1, none⟩ (.bool s)).setCell ⟨bb, 2, none⟩ lv

theorem heap_setCell_at (w : World) (b o : Nat) (cs : Array Value) (T : TypeId) (fr : Nat × Nat) (x : Value) (h : w.heap[b]? = some (.cells cs T fr)) : (w.setCell ⟨b, o, none⟩ x).heap[b]? = some (.cells (cs.setIfInBounds o x) T fr) := by
  have hlt := (Array.getElem?_eq_some_iff.1 h).1
  have h' : w.heap[b] = .cells cs T fr := by simpa [Array.getElem?_eq_getElem hlt] using h
  show (w.heap.modify b _)[b]? = _
  rw [Array.getElem?_eq_getElem (by simpa using hlt), Array.getElem_modify_self, h']
  rfl

/-- The law's variable: its block holds both. -/
def BothAt (w : World) (bb : Nat) (E : Value) (s : Bool) (lv : Value) : Prop := w.heap[bb]? = some (.cells #[E, .bool s, lv] 29 (0, 0))

theorem BothAt.later {w w' : World} {bb : Nat} {E : Value} {s : Bool} {lv : Value} (h : BothAt w bb E s lv) (hb : Below w.heap.size w w') : BothAt w' bb E s lv := by
  unfold BothAt
  rw [hb.block _ (Array.getElem?_eq_some_iff.1 h).1]
  exact h

theorem BothAt.cells {w : World} {bb : Nat} {E : Value} {s : Bool} {lv : Value} (h : BothAt w bb E s lv) : w.cell? ⟨bb, 0, none⟩ = some E ∧ w.cell? ⟨bb, 1, none⟩ = some (.bool s) ∧ w.cell? ⟨bb, 2, none⟩ = some lv ∧
    w.frozen? ⟨bb, 0, none⟩ = false ∧ w.frozen? ⟨bb, 1, none⟩ = false ∧ w.frozen? ⟨bb, 2, none⟩ = false := by
  unfold BothAt at h
  refine ⟨?_, ?_, ?_, ?_, ?_, ?_⟩ <;> simp [World.cell?, World.frozen?, h]

theorem bothW_at {w : World} {bb : Nat} {E E' : Value} {s s' : Bool} {lv lv' : Value} (h : BothAt w bb E s lv) : BothAt (bothW w bb E' s' lv') bb E' s' lv' :=
  heap_setCell_at _ _ _ _ _ _ _ (heap_setCell_at _ _ _ _ _ _ _ (heap_setCell_at _ _ _ _ _ _ _ h))

theorem bothW_size (w : World) (bb : Nat) (E : Value) (s : Bool) (lv : Value) : (bothW w bb E s lv).heap.size = w.heap.size := by
  simp [bothW]

theorem bothW_good {w : World} {bb : Nat} {E E' : Value} {s s' : Bool} {lv lv' : Value} (h : BothAt w bb E s lv) {base : Nat} {o : Option (List Key)} {is js : List Item} {k : Nat} {E1 : Value} {s1 : Bool} {lv1 : Value} (g : Good base w o E1 s1 lv1 is js k) : Good base (bothW w bb E' s' lv') o E1 s1 lv1 is js k := by
  have h1 := heap_setCell_at w bb 0 _ _ _ E' h
  have h2 := heap_setCell_at _ bb 1 _ _ _ (.bool s') h1
  refine ⟨?_, g.eres, ?_, g.nils, g.rres, g.ok, g.len⟩
  · rw [bothW_size]
    exact (((g.chain.setOther h (by decide) 0 E').setOther h1 (by decide) 1 _).setOther h2 (by decide) 2 _)
  · exact ((g.row.setOther h (by decide) 0 E').setOther h1 (by decide) 1 _).setOther h2 (by decide) 2 _

theorem bothW_below {w wr : World} {B bb : Nat} (h : Below B w wr) (hb : B ≤ bb) (E : Value) (s : Bool) (lv : Value) : Below B w (bothW wr bb E s lv) :=
  ((h.setCell hb _).setCell hb _).setCell hb _
end Go.Proofs.YtciebpijdgdcjaaDoor
