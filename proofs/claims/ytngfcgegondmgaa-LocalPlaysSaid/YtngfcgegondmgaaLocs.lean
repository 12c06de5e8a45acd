/-
  Members of a local in memory: a row of them of its own; a local in a block; what a call leaves alone.
  Conditions: none.
-/
import Derived.Test.YtngfcgegondmgaaLocMath
import Derived.Test.YtngfcgegondmgaaRets
import Derived.Test.YtngfcgegondmgaaDelete
import Derived.Maps.AppendAt
import Derived.WalkSpells
import Derived.Lib.SliceRun
import Derived.BigRegion
import Derived.Deep.Cut
import Derived.Deep.CutRange
set_option linter.unusedVariables false
namespace Go.Proofs.Ytngfcgegondmgaa
open Go.RowKit

theorem heap_lt {W : World} {b : Nat} {o : Obj} (h : W.heap[b]? = some o) : b < W.heap.size := (Array.getElem?_eq_some_iff.1 h).1
theorem wrap64_small {i : Int} (h0 : -9223372036854775808 ≤ i) (h1 : i ≤ 9223372036854775807) : wrap64 i = i := IntWalk.wrap64_in i ⟨h0, h1⟩

/-- But for the blocks of F, what was there is as it was. -/
structure Apart (F : Nat → Prop) (w w' : World) : Prop where
  os : w'.os = w.os
  tape : w'.tape = w.tape
  output : w'.output = w.output
  size : w.heap.size ≤ w'.heap.size
  block : ∀ k, k < w.heap.size → ¬ F k → w'.heap[k]? = w.heap[k]?
theorem Apart.refl (F : Nat → Prop) (w : World) : Apart F w w := ⟨rfl, rfl, rfl, Nat.le_refl _, fun _ _ _ => rfl⟩
theorem Apart.trans {F F' : Nat → Prop} {a b c : World} (h : Apart F a b) (k : Apart F' b c) (hF : ∀ x, x < a.heap.size → F' x → F x) : Apart F a c :=
  ⟨k.os.trans h.os, k.tape.trans h.tape, k.output.trans h.output, Nat.le_trans h.size k.size, fun x hx hn => (k.block x (Nat.lt_of_lt_of_le hx h.size) (fun hf => hn (hF x hx hf))).trans (h.block x hx hn)⟩
theorem Apart.of_below {F : Nat → Prop} {w w' : World} (h : Below w.heap.size w w') : Apart F w w' := ⟨h.os, h.tape, h.output, h.size, fun k hk _ => h.block k hk⟩
theorem Apart.below {F : Nat → Prop} {B : Nat} {w w' : World} (h : Apart F w w') (hB : B ≤ w.heap.size) (hF : ∀ k, k < B → ¬ F k) : Below B w w' :=
  ⟨h.os, h.tape, h.output, h.size, fun k hk => h.block k (by omega) (hF k hk)⟩
theorem Apart.set {F : Nat → Prop} {a w : World} (h : Apart F a w) {p : Addr} (hp : F p.block ∨ a.heap.size ≤ p.block) (u : Value) : Apart F a (w.setCell p u) :=
  h.trans (F' := fun k => k = p.block) ⟨rfl, rfl, rfl, by simp [World.setCell], fun k hk hn => Below.heap_setCell _ _ _ _ hn⟩ (fun x hx e => by
    subst e
    rcases hp with hp | hp
    · exact hp
    · omega)
theorem Apart.drewN {F : Nat → Prop} {a w : World} (h : Apart F a w) (n : Nat) : Apart F a (w.drewN n) := ⟨h.os, h.tape, h.output, h.size, h.block⟩
theorem heap_setCell_mem (w : World) (b o : Nat) (cs : Array Value) (T : TypeId) (fr : Nat × Nat) (x : Value) (h : w.heap[b]? = some (.cells cs T fr)) : (w.setCell ⟨b, o, none⟩ x).heap[b]? = some (.cells (cs.setIfInBounds o x) T fr) := by
  have hlt := (Array.getElem?_eq_some_iff.1 h).1
  have h' : w.heap[b] = .cells cs T fr := by simpa [Array.getElem?_eq_getElem hlt] using h
  show (w.heap.modify b _)[b]? = _
  rw [Array.getElem?_eq_getElem (by simpa using hlt), Array.getElem_modify_self, h']
  rfl

theorem Try.infoMb : (Try.prog.info? 67).map (fun i => (i.zero, i.size, i.bytes)) = some (some (.agg #[.int .i64 0, .int .i64 0, .int .i64 0]), 3, 24) := by kernel_rfl
theorem Try.infoLoc : (Try.prog.info? 62).map (fun i => (i.zero, i.size, i.bytes)) = some (some (.agg #[.slice none 0 0]), 1, 24) := by kernel_rfl

def mbCells (m : Lm) : List Value := [.int .i64 m.u, .int .i64 m.s, .int .i64 m.g]
def mbA (m : Lm) : Value := .agg #[.int .i64 m.u, .int .i64 m.s, .int .i64 m.g]
def rowC (l : List Lm) : List Value := l.flatMap mbCells
theorem rowC_cons (m : Lm) (l : List Lm) : rowC (m :: l) = .int .i64 m.u :: .int .i64 m.s :: .int .i64 m.g :: rowC l := by simp [rowC, mbCells]
theorem rowC_append (l k : List Lm) : rowC (l ++ k) = rowC l ++ rowC k := by simp [rowC]
theorem rowC_length : ∀ (l : List Lm), (rowC l).length = l.length * 3
  | [] => rfl
  | m :: l => by rw [rowC_cons]; simp [rowC_length l]; omega
theorem rowC_get : ∀ (l : List Lm) (j : Nat) (m : Lm), l[j]? = some m → (rowC l)[j * 3]? = some (.int .i64 m.u) ∧ (rowC l)[j * 3 + 1]? = some (.int .i64 m.s) ∧ (rowC l)[j * 3 + 2]? = some (.int .i64 m.g)
  | [], j, m, h => by simp at h
  | x :: l, 0, m, h => by
    simp at h
    subst h
    exact ⟨rfl, rfl, rfl⟩
  | x :: l, j + 1, m, h => by
    have ih := rowC_get l j m (by simpa using h)
    rw [rowC_cons, show (j + 1) * 3 = j * 3 + 1 + 1 + 1 by omega]
    simpa using ih
theorem rowC_one (l : List Lm) : ∀ u ∈ rowC l, u.oneCell' = true := by
  intro u hu
  obtain ⟨m, _, hm⟩ := List.mem_flatMap.1 hu
  simp [mbCells] at hm
  rcases hm with rfl | rfl | rfl <;> rfl
theorem rowC_take : ∀ (l : List Lm) (i : Nat), (rowC l).take (i * 3) = rowC (l.take i)
  | [], i => by simp [rowC]
  | m :: l, 0 => by simp [rowC]
  | m :: l, i + 1 => by
    rw [rowC_cons, show (i + 1) * 3 = i * 3 + 1 + 1 + 1 by omega, List.take_succ_cons, List.take_succ_cons, List.take_succ_cons, rowC_take l i, List.take_succ_cons, rowC_cons]
theorem rowC_drop : ∀ (l : List Lm) (i : Nat), (rowC l).drop (i * 3) = rowC (l.drop i)
  | [], i => by simp [rowC]
  | m :: l, 0 => by simp [rowC]
  | m :: l, i + 1 => by
    rw [rowC_cons, show (i + 1) * 3 = i * 3 + 1 + 1 + 1 by omega, List.drop_succ_cons, List.drop_succ_cons, List.drop_succ_cons, rowC_drop l i, List.drop_succ_cons]
theorem rowC_set : ∀ (l : List Lm) (j : Nat) (m x : Lm), l[j]? = some m → (((rowC l).set (j * 3) (.int .i64 x.u)).set (j * 3 + 1) (.int .i64 x.s)).set (j * 3 + 2) (.int .i64 x.g) = rowC (l.set j x)
  | [], j, m, x, h => by simp at h
  | y :: l, 0, m, x, h => by
    rw [List.set_cons_zero, rowC_cons, rowC_cons]
    rfl
  | y :: l, j + 1, m, x, h => by
    rw [rowC_cons, List.set_cons_succ, rowC_cons, ← rowC_set l j m x (by simpa using h), show (j + 1) * 3 = j * 3 + 1 + 1 + 1 by omega]
    rfl
theorem set_self {α : Type} {l : List α} {k : Nat} {x : α} (h : l[k]? = some x) : l.set k x = l := by
  apply List.ext_getElem?
  intro i
  rw [List.getElem?_set]
  split
  · rename_i e
    subst e
    rw [if_pos (List.getElem?_eq_some_iff.1 h).1, h]
  · rfl
/-- What it got is written anew. -/
theorem rowC_setG (l : List Lm) (j : Nat) (m : Lm) (h : l[j]? = some m) (x : Nat) : (rowC l).set (j * 3 + 2) (.int .i64 x) = rowC (l.set j { m with g := x }) := by
  obtain ⟨c0, c1, c2⟩ := rowC_get l j m h
  rw [← rowC_set l j m _ h, set_self c0, set_self c1]

/-- A member lies at an address. -/
def MbAt (W : World) (b o : Nat) (m : Lm) : Prop :=
  W.cell? ⟨b, o, none⟩ = some (.int .i64 m.u) ∧ W.cell? ⟨b, o + 1, none⟩ = some (.int .i64 m.s) ∧ W.cell? ⟨b, o + 2, none⟩ = some (.int .i64 m.g)
/-- A row of members of the local's own. -/
abbrev RowM (W : World) (v : Value) (l : List Lm) : Prop := W.ownsRow 0 67 3 v l.length (rowC l)
theorem own_lt {w : World} {base e size n : Nat} {v : Value} {xs : List Value} (h : w.ownsRow base e size v n xs) {k : Nat} (hk : v.ownBlock = some k) : k < w.heap.size := by
  rcases h.2 with ⟨rfl, h0⟩ | ⟨g, cap, cur, rfl, hg, hh, _⟩
  · cases hk
  · cases hk
    exact heap_lt hh
theorem own3_lies {W : World} {base e : Nat} {v : Value} {l : List Lm} (h : W.ownsRow base e 3 v l.length (rowC l)) (hp : 0 < l.length) :
    ∃ g cap, v = .slice (some ⟨g, 0, none⟩) l.length cap ∧ base ≤ g ∧ g < W.heap.size ∧ l.length ≤ cap ∧ cap ≤ maxLen ∧ (∀ j m, l[j]? = some m → MbAt W g (j * 3) m) ∧ ∀ j, W.frozen? ⟨g, j, none⟩ = false := by
  obtain ⟨h1, h2⟩ := h
  rcases h2 with ⟨rfl, h0⟩ | ⟨g, cap, cur, rfl, hg, hh, hn, hc, hs, ht⟩
  · omega
  · refine ⟨g, cap, rfl, hg, heap_lt hh, hn, hc, fun j m hj => ?_, fun j => by simp [World.frozen?, hh]⟩
    have hjl : j < l.length := (List.getElem?_eq_some_iff.1 hj).1
    obtain ⟨g0, g1, g2⟩ := rowC_get l j m hj
    have key : ∀ (i : Nat) (u : Value), i < l.length * 3 → (rowC l)[i]? = some u → W.cell? ⟨g, i, none⟩ = some u := by
      intro i u hi hu
      rw [cell_of_row W g i _ _ (0, 0) hh, ← hu, ← ht, List.getElem?_take, if_pos hi]
      simp
    exact ⟨key _ _ (by omega) g0, key _ _ (by omega) g1, key _ _ (by omega) g2⟩
/-- A cell of a row of a call's own is stored into. -/
theorem ownK_set {W : World} {base e sz n g cap k : Nat} {xs : List Value} (h : W.ownsRow base e sz (.slice (some ⟨g, 0, none⟩) n cap) n xs) (u : Value) :
    (W.setCell ⟨g, k, none⟩ u).ownsRow base e sz (.slice (some ⟨g, 0, none⟩) n cap) n (xs.set k u) := by
  obtain ⟨h1, h2⟩ := h
  refine ⟨by rw [List.length_set]; exact h1, ?_⟩
  rcases h2 with ⟨h0, _⟩ | ⟨g', cap', cur, hv, hg, hh, hn, hc, hs, ht⟩
  · cases h0
  · injection hv with e1 e2 e3
    injection e1 with e1
    injection e1 with e1
    subst e1 e3
    refine .inr ⟨g, cap, cur.setIfInBounds k u, rfl, hg, heap_setCell_mem _ _ _ _ _ _ _ hh, hn, hc, by simpa using hs, ?_⟩
    rw [← ht, Array.toList_setIfInBounds, List.take_set]
theorem own_keep {w w' : World} {base e size n : Nat} {v : Value} {xs : List Value} (h : w.ownsRow base e size v n xs) (hk : ∀ k, v.ownBlock = some k → w'.heap[k]? = w.heap[k]?) : w'.ownsRow base e size v n xs := by
  obtain ⟨h1, h2⟩ := h
  refine ⟨h1, ?_⟩
  rcases h2 with h2 | ⟨g, cap, cur, rfl, hg, hh, r⟩
  · exact .inl h2
  · exact .inr ⟨g, cap, cur, rfl, hg, (hk g rfl).trans hh, r⟩
theorem cell_same {W W' : World} {b : Nat} (h : W'.heap[b]? = W.heap[b]?) (o : Nat) : W'.cell? ⟨b, o, none⟩ = W.cell? ⟨b, o, none⟩ := World.cell?_of_block (w := W) h
theorem MbAt.keep {W W' : World} {b o : Nat} {m : Lm} (h : MbAt W b o m) (hk : W'.heap[b]? = W.heap[b]?) : MbAt W' b o m :=
  have e := fun o => cell_same (W := W) (W' := W') hk o
  ⟨(e _).trans h.1, (e _).trans h.2.1, (e _).trans h.2.2⟩

/-- A local in memory. -/
structure LocAt (W : World) (rb : Nat) (mv : Value) (l : List Lm) : Prop where
  head : W.heap[rb]? = some (.cells #[mv] 62 (0, 0))
  row : RowM W mv l
  ne : mv.ownBlock ≠ some rb
/-- Its blocks. -/
def Foot (rb : Nat) (mv : Value) : Nat → Prop := fun k => k = rb ∨ mv.ownBlock = some k
theorem LocAt.lt {W : World} {rb : Nat} {mv : Value} {l : List Lm} (h : LocAt W rb mv l) : rb < W.heap.size := heap_lt h.head
theorem LocAt.foot {W : World} {rb : Nat} {mv : Value} {l : List Lm} (h : LocAt W rb mv l) {k : Nat} (hk : Foot rb mv k) : k < W.heap.size := by
  rcases hk with rfl | hk
  · exact h.lt
  · exact own_lt h.row hk
theorem LocAt.keep {W W' : World} {rb : Nat} {mv : Value} {l : List Lm} (h : LocAt W rb mv l) (hk : ∀ k, Foot rb mv k → W'.heap[k]? = W.heap[k]?) : LocAt W' rb mv l :=
  ⟨(hk rb (.inl rfl)).trans h.head, own_keep h.row fun k e => hk k (.inr e), h.ne⟩
theorem LocAt.below {W W' : World} {rb : Nat} {mv : Value} {l : List Lm} (h : LocAt W rb mv l) (hb : Below W.heap.size W W') : LocAt W' rb mv l := h.keep fun k hk => hb.block k (h.foot hk)
theorem LocAt.form {W : World} {rb : Nat} {mv : Value} {l : List Lm} (h : LocAt W rb mv l) : ∃ A c, mv = .slice A l.length c := own_form h.row
/-- What the walk wants of the head. -/
theorem LocAt.heads {W : World} {rb : Nat} {mv : Value} {l : List Lm} (h : LocAt W rb mv l) : W.cell? ⟨rb, 0, none⟩ = some mv ∧ W.frozen? ⟨rb, 0, none⟩ = false := by
  have e := h.head
  refine ⟨?_, ?_⟩ <;> simp [World.cell?, World.frozen?, e]
/-- A member of it: where it lies. -/
theorem LocAt.at_ {W : World} {rb : Nat} {mv : Value} {l : List Lm} (h : LocAt W rb mv l) {k : Nat} {m : Lm} (hk : l[k]? = some m) :
    ∃ g cap, mv = .slice (some ⟨g, 0, none⟩) l.length cap ∧ g < W.heap.size ∧ g ≠ rb ∧ l.length ≤ cap ∧ cap ≤ maxLen ∧ MbAt W g (k * 3) m ∧ ∀ j, W.frozen? ⟨g, j, none⟩ = false := by
  have hn := h.ne
  obtain ⟨g, cap, rfl, _, h2, h3, h4, h5, h6⟩ := own3_lies h.row (by have := (List.getElem?_eq_some_iff.1 hk).1; omega)
  exact ⟨g, cap, rfl, h2, fun e => hn (by rw [e]; rfl), h3, h4, h5 k m hk, h6⟩
/-- What a member got is written anew. -/
theorem LocAt.setG {W : World} {rb g n cap k : Nat} {l : List Lm} (h : LocAt W rb (.slice (some ⟨g, 0, none⟩) n cap) l) {m : Lm} (hk : l[k]? = some m) (x : Nat) :
    LocAt (W.setCell ⟨g, k * 3 + 2, none⟩ (.int .i64 x)) rb (.slice (some ⟨g, 0, none⟩) n cap) (l.set k { m with g := x }) := by
  obtain ⟨A, c, hv⟩ := h.form
  injection hv with _ hn _
  subst hn
  refine ⟨(Below.heap_setCell _ _ _ _ (fun e => h.ne (by rw [e]; rfl))).trans h.head, ?_, h.ne⟩
  have := ownK_set (k := k * 3 + 2) h.row (.int .i64 x)
  rw [rowC_setG l k m hk] at this
  show World.ownsRow _ _ _ _ _ (l.set k { m with g := x }).length _
  rw [List.length_set]
  exact this

/-- The row's block is the one that was, or a new one. -/
def Grew (w : World) (mv mv' : Value) : Prop := ∀ k, mv'.ownBlock = some k → mv.ownBlock = some k ∨ w.heap.size ≤ k
theorem Grew.refl (w : World) (mv : Value) : Grew w mv mv := fun k hk => .inl hk
theorem Grew.trans {a b : World} {m1 m2 m3 : Value} (h : Grew a m1 m2) (k : Grew b m2 m3) (hs : a.heap.size ≤ b.heap.size) : Grew a m1 m3 := fun x hx => by
  rcases k x hx with h2 | h2
  · exact h x h2
  · exact .inr (Nat.le_trans hs h2)
/-- What a call of a local answers, and what it makes of the local. -/
def MutPost (W : World) (rb : Nat) (mv : Value) (v : Value) (l' : List Lm) (e : Ending) (w' : World) : Prop :=
  ∃ mv', e = .returned v ∧ LocAt w' rb mv' l' ∧ Apart (Foot rb mv) W w' ∧ Grew W mv mv'
theorem mut_below {W w' : World} {rb : Nat} {mv v : Value} {l : List Lm} (h : LocAt W rb mv l) (hb : Below W.heap.size W w') {e : Ending} (he : e = .returned v) : MutPost W rb mv v l e w' :=
  ⟨mv, he, h.below hb, Apart.of_below hb, Grew.refl _ _⟩

/-- A local of a call's own: all its blocks are at base or above. -/
def Held (base : Nat) (W : World) (rb : Nat) (l : List Lm) : Prop := ∃ mv, LocAt W rb mv l ∧ ∀ k, Foot rb mv k → base ≤ k
theorem Held.below {base : Nat} {W W' : World} {rb : Nat} {l : List Lm} (h : Held base W rb l) (hb : Below W.heap.size W W') : Held base W' rb l := by
  obtain ⟨mv, h1, h2⟩ := h
  exact ⟨mv, h1.below hb, h2⟩
/-- What a call made of it. -/
theorem Held.mut {base : Nat} {W w' : World} {rb : Nat} {l l' : List Lm} {mv v : Value} {e : Ending} (hb : base ≤ W.heap.size) (hl : ∀ k, Foot rb mv k → base ≤ k) (h : MutPost W rb mv v l' e w') :
    e = .returned v ∧ Held base w' rb l' ∧ Below base W w' := by
  obtain ⟨mv', he, hat, hap, hg⟩ := h
  refine ⟨he, ⟨mv', hat, fun k hk => ?_⟩, hap.below hb fun k hk hf => absurd (hl k hf) (by omega)⟩
  rcases hk with rfl | hk
  · exact hl k (.inl rfl)
  · rcases hg k hk with hk | hk
    · exact hl k (.inr hk)
    · omega
/-- A local that New did not make. -/
def Bare (W : World) (rb : Nat) : Prop := W.heap[rb]? = some (.cells #[.slice none 0 0] 62 (0, 0))
theorem Bare.at_ {W : World} {rb : Nat} (h : Bare W rb) : LocAt W rb (.slice none 0 0) [] := ⟨h, ⟨rfl, .inl ⟨rfl, rfl⟩⟩, by intro h; cases h⟩
end Go.Proofs.Ytngfcgegondmgaa
