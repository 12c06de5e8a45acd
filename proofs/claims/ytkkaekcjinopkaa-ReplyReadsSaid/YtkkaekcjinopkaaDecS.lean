/-
  What Decode's memory holds: the answer, the reader, the reply so far.
  Conditions: none.
-/
import Derived.Test.YtkkaekcjinopkaaInts
import Derived.Test.YtkkaekcjinopkaaRefRead
set_option linter.unusedVariables false
namespace Go.Proofs.Ytkkaekcjinopkaa
open Go.RowKit

theorem Try.sizeRep (r : Rep) (v : Value) : (Try.prog.info? 25).map (·.size) = some (repA r v).size := by
  show _ = some 4
  kernel_rfl

theorem RepAt.apart {F : Nat → Prop} {W W' : World} {b : Nat} {r : Rep} {v : Value} (h : RepAt W b r v) (ha : Apart F W W') (hF : ¬ F b) : RepAt W' b r v := (ha.block b h.lt hF).trans h
theorem RepAt.stay {W W' : World} {b B : Nat} {r : Rep} {v : Value} (h : RepAt W b r v) (hb : Below B W W') (hB : b < B) : RepAt W' b r v := (hb.block b hB).trans h
theorem RepAt.else_ {W : World} {b g o : Nat} {r : Rep} {v : Value} (h : RepAt W b r v) (hne : b ≠ g) (u : Value) : RepAt (W.setCell ⟨g, o, none⟩ u) b r v := (Below.heap_setCell _ _ _ _ hne).trans h
theorem RepAt.set0 {W : World} {b : Nat} {r : Rep} {v : Value} (h : RepAt W b r v) (x : Int) : RepAt (W.setCell ⟨b, 0, none⟩ (.int .i64 x)) b ⟨x, r.p, r.m, r.ns⟩ v := by
  have h' : W.heap[b]? = _ := h
  unfold RepAt
  simp [World.setCell, Array.getElem?_modify, h']
theorem RepAt.set1 {W : World} {b : Nat} {r : Rep} {v : Value} (h : RepAt W b r v) (x : Bool) : RepAt (W.setCell ⟨b, 1, none⟩ (.bool x)) b ⟨r.e, x, r.m, r.ns⟩ v := by
  have h' : W.heap[b]? = _ := h
  unfold RepAt
  simp [World.setCell, Array.getElem?_modify, h']
theorem RepAt.set2 {W : World} {b : Nat} {r : Rep} {v : Value} (h : RepAt W b r v) (x : Int) : RepAt (W.setCell ⟨b, 2, none⟩ (.int .i64 x)) b ⟨r.e, r.p, x, r.ns⟩ v := by
  have h' : W.heap[b]? = _ := h
  unfold RepAt
  simp [World.setCell, Array.getElem?_modify, h']
theorem RepAt.set3 {W : World} {b : Nat} {r : Rep} {v : Value} (h : RepAt W b r v) (u : Value) (ns : List Int) : RepAt (W.setCell ⟨b, 3, none⟩ u) b ⟨r.e, r.p, r.m, ns⟩ u := by
  have h' : W.heap[b]? = _ := h
  unfold RepAt
  simp [World.setCell, Array.getElem?_modify, h']
/-- A reply is written over another one. -/
theorem RepAt.all {W : World} {b : Nat} {r : Rep} {v : Value} (h : RepAt W b r v) (s : Rep) (u : Value) :
    RepAt ((((W.setCell ⟨b, 0, none⟩ (.int .i64 s.e)).setCell ⟨b, 1, none⟩ (.bool s.p)).setCell ⟨b, 2, none⟩ (.int .i64 s.m)).setCell ⟨b, 3, none⟩ u) b s u :=
  (((h.set0 s.e).set1 s.p).set2 s.m).set3 u s.ns
theorem apart_all {W : World} {b : Nat} (e p m u : Value) :
    Apart (fun k => k = b) W ((((W.setCell ⟨b, 0, none⟩ e).setCell ⟨b, 1, none⟩ p).setCell ⟨b, 2, none⟩ m).setCell ⟨b, 3, none⟩ u) :=
  ((((Apart.refl (fun k => k = b) W).set (p := ⟨b, 0, none⟩) (.inl rfl) _).set (p := ⟨b, 1, none⟩) (.inl rfl) _).set (p := ⟨b, 2, none⟩) (.inl rfl) _).set (p := ⟨b, 3, none⟩) (.inl rfl) _

/-- Where the answer (n), the reader (g), the reply so far (rb) lie; its numbers lie at base or above. -/
structure DecS (n g rb base : Nat) (w : World) (bs : List Nat) (e : Int) (r : Rep) (v : Value) (W : World) : Prop where
  z : RepAt W n zeroR (.slice none 0 0)
  rd : ReaderAt W g bs e
  rep : RepAt W rb r v
  below : Below n w W
  size : base ≤ W.heap.size
structure DecO (n g rb base : Nat) : Prop where
  a : n < g
  b : g < rb
  c : rb < base
theorem DecS.moved {n g rb base : Nat} {w W W' : World} {bs bs' : List Nat} {e e' : Int} {r : Rep} {v : Value} (h : DecS n g rb base w bs e r v W) (o : DecO n g rb base) (ha : Apart (fun k => k = g) W W') (hr : ReaderAt W' g bs' e') : DecS n g rb base w bs' e' r v W' :=
  ⟨h.z.apart ha (by have := o.a; omega), hr, h.rep.apart ha (by have := o.b; omega), h.below.trans (ha.below (by have := h.size; have := o.a; have := o.b; have := o.c; omega) (fun k hk e => by have := o.a; omega)), Nat.le_trans h.size ha.size⟩
theorem DecS.stay {n g rb base : Nat} {w W W' : World} {bs : List Nat} {e : Int} {r : Rep} {v : Value} (h : DecS n g rb base w bs e r v W) (o : DecO n g rb base) (hb : Below base W W') : DecS n g rb base w bs e r v W' :=
  ⟨h.z.stay hb (by have := o.a; have := o.b; have := o.c; omega), h.rd.stay hb (by have := o.b; have := o.c; omega), h.rep.stay hb o.c, ⟨hb.os.trans h.below.os, hb.tape.trans h.below.tape, hb.output.trans h.below.output, Nat.le_trans h.below.size hb.size, fun k hk => (hb.block k (by have := o.a; have := o.b; have := o.c; omega)).trans (h.below.block k hk)⟩, Nat.le_trans h.size hb.size⟩
theorem DecS.set {n g rb base : Nat} {w W : World} {bs : List Nat} {e : Int} {r r' : Rep} {v v' : Value} (h : DecS n g rb base w bs e r v W) (o : DecO n g rb base) {j : Nat} {u : Value} (hr : RepAt (W.setCell ⟨rb, j, none⟩ u) rb r' v') : DecS n g rb base w bs e r' v' (W.setCell ⟨rb, j, none⟩ u) :=
  ⟨h.z.else_ (by have := o.a; have := o.b; omega) _, h.rd.elsewhere o.b _, hr, h.below.setCell (p := ⟨rb, j, none⟩) (by show n ≤ rb; have := o.a; have := o.b; omega) _, by have := h.size; simpa [World.setCell] using this⟩
theorem OwnK.moved {K : IntKind} {T : TypeId} {W W' : World} {base g : Nat} {v : Value} {xs : List Nat} (h : OwnK K T W base v xs) (ha : Apart (fun k => k = g) W W') (hg : g < base) : OwnK K T W' base v xs :=
  h.apart ha (fun k hk e => by have := h.base k hk; omega)
theorem OwnK.set {K : IntKind} {T : TypeId} {W : World} {base b j : Nat} {v : Value} {xs : List Nat} (h : OwnK K T W base v xs) (hb : b < base) (u : Value) : OwnK K T (W.setCell ⟨b, j, none⟩ u) base v xs :=
  h.moved ((Apart.refl (fun k => k = b) W).set (p := ⟨b, j, none⟩) (.inl rfl) u) hb

/-- One number is appended, in a region whose order is drawn. -/
theorem wp_append_num {P : Program} {w : World} {o : Oper} {a : Act} {K0 : Act → World → Prop} {Q : Exit → Act → World → Prop} (s x : Operand) (t : TypeId) (K : IntKind) (T : TypeId)
    (ho : o.op = .call { callee := .builtin .append, args := #[s, x], argTypes := #[t, t] })
    (base : Nat) (ht : P.underlying t = some (.slice T)) (hi0 : (P.info? T).map (fun i => (i.zero, i.size, i.bytes)) = some (some (.int K 0), 1, 8))
    (v : Value) (xs : List Nat) (hs : a.eval s = v) (hown : OwnK K T w base v xs) (b c y : Nat) (hx : a.eval x = .slice (some ⟨b, 0, none⟩) 1 c) (hy : w.cell? ⟨b, 0, none⟩ = some (.int K y))
    (hl : xs.length ≤ 1000000) (hb : base ≤ w.heap.size)
    (h : ∀ v' w', OwnK K T w' base v' (xs ++ [y]) → Below base w w' → K0 (a.put o.dst v') w') : o.wp P a w K0 Q := by
  obtain ⟨i, hi, hz0, hz1, hz2⟩ := info_parts hi0
  refine wp_append_own w s x t ho base T i (.int K 0) 1 8 ht hi hz0 hz1 hz2 rfl (by decide) v xs.length _ hs hown ⟨b, 0, none⟩ 1 c [.int K y] hx rfl ?_ ?_ (by unfold maxLen; omega) (by omega) hb ?_
  · intro j u hj
    rcases j with _ | j
    · have e : Value.int K y = u := by simpa using hj
      subst e
      rw [Addr.add_lit]
      exact hy
    · simp at hj
  · intro u hu
    have e : u = Value.int K y := by simpa using hu
    subst e
    rfl
  · intro v' w' h1 h2 h3
    refine h v' w' ?_ (below_grown h2 hb hown.base)
    show w'.ownsRow base T 1 v' (xs ++ [y]).length _
    rw [List.length_append, List.map_append]
    exact h1

/-- What Decode answers. -/
def DecP (bs : List Nat) (w : World) (e : Ending) (w' : World) : Prop :=
  ∃ x ok v, e = .returned (.tuple #[.agg (repA x v), .int .i64 (if ok = true then 0 else 3)]) ∧ IsDec bs x ok ∧ IntsAt w' v x.ns ∧ Below w.heap.size w w'
end Go.Proofs.Ytkkaekcjinopkaa
