/-
  Members in memory: a row of them of the ring's own; a ring in a block; what a call leaves alone.
  Conditions: none.
-/
import Derived.Test.YtanchjcifhbllaaRingSim
import Derived.Test.YtanchjcifhbllaaProg
import Derived.WalkKit
import Derived.WalkLawsBesides
import Derived.Below
import Derived.Lib.Hide
import Derived.Handy
import Derived.ProofKit
import Derived.Deep.LoopGhost
import Derived.Deep.QuietTactic
import Derived.BigQuiet
import Derived.IntWalk
import Derived.LoopTactic
import Derived.OwnWalk
import Derived.Laws.MakeOwn
import Derived.Laws.Rows
import Derived.OpenShut
import Derived.Deep.RegionHeld3
import Derived.Deep.AppendLies
import Derived.Maps.AppendAt
import Derived.WalkSpells
import Derived.Lib.SliceRun
import Derived.BigRegion
import Derived.Deep.Cut
import Derived.Deep.CutRange
set_option linter.unusedVariables false
namespace Go.Proofs.Ytanchjcifhbllaa
open Go.RowKit

/-- What a call answers that reads only. -/
def Ret (v : Value) (w : World) (e : Ending) (w' : World) : Prop := e = .returned v ∧ w = w'
/-- What a call answers that makes memory, and leaves all that was. -/
def RetB (v : Value) (w : World) (e : Ending) (w' : World) : Prop := e = .returned v ∧ Below w.heap.size w w'
theorem heap_lt {W : World} {b : Nat} {o : Obj} (h : W.heap[b]? = some o) : b < W.heap.size := (Array.getElem?_eq_some_iff.1 h).1
theorem wrap64_small {i : Int} (h0 : -9223372036854775808 ≤ i) (h1 : i ≤ 9223372036854775807) : wrap64 i = i := IntWalk.wrap64_in i ⟨h0, h1⟩
theorem ex_at {α : Type} {xs : List α} {k : Nat} (h : k < xs.length) : ∃ x, xs[k]? = some x := ⟨xs[k], List.getElem?_eq_getElem h⟩

/-- But for the blocks of F, what was there is as it was. -/
structure Apart (F : Nat → Prop) (w w' : World) : Prop where
  os : w'.os = w.os
  tape : w'.tape = w.tape
  output : w'.output = w.output
  size : w.heap.size ≤ w'.heap.size
  block : ∀ k, k < w.heap.size → ¬ F k → w'.heap[k]? = w.heap[k]?
theorem Apart.refl (F : Nat → Prop) (w : World) : Apart F w w := ⟨rfl, rfl, rfl, Nat.le_refl _, fun _ _ _ => rfl⟩
theorem Apart.trans {F F' : Nat → Prop} {a b c : World} (h : Apart F a b) (k : Apart F' b c) (hF : ∀ x, x < a.heap.size → F' x → F x) : Apart F a c :=
  ⟨k.os.trans h.os, k.tape.trans h.tape, k.output.trans h.output, Nat.le_trans h.size k.size, fun x hx hn => (k.block x (Nat.lt_of_lt_of_le hx h.size) (fun hf => hn (hF x hx hf))).trans (h.block x hx hn)⟩
theorem Apart.of_below {F : Nat → Prop} {w w' : World} (h : Below w.heap.size w w') : Apart F w w' := ⟨h.os, h.tape, h.output, h.size, fun k hk _ => h.block k hk⟩
theorem Apart.below {F : Nat → Prop} {B : Nat} {w w' : World} (h : Apart F w w') (hB : B ≤ w.heap.size) (hF : ∀ k, k < B → ¬ F k) : Below B w w' :=
  ⟨h.os, h.tape, h.output, h.size, fun k hk => h.block k (by omega) (hF k hk)⟩
theorem Apart.set {F : Nat → Prop} {a w : World} (h : Apart F a w) {p : Addr} (hp : F p.block ∨ a.heap.size ≤ p.block) (u : Value) : Apart F a (w.setCell p u) :=
  h.trans (F' := fun k => k = p.block) ⟨rfl, rfl, rfl, by simp [World.setCell], fun k hk hn => Below.heap_setCell _ _ _ _ hn⟩ (fun x hx e => by
    subst e
    rcases hp with hp | hp
    · exact hp
    · omega)
theorem Apart.drewN {F : Nat → Prop} {a w : World} (h : Apart F a w) (n : Nat) : Apart F a (w.drewN n) := ⟨h.os, h.tape, h.output, h.size, h.block⟩
theorem heap_setCell_mem (w : World) (b o : Nat) (cs : Array Value) (T : TypeId) (fr : Nat × Nat) (x : Value) (h : w.heap[b]? = some (.cells cs T fr)) : (w.setCell ⟨b, o, none⟩ x).heap[b]? = some (.cells (cs.setIfInBounds o x) T fr) := by
  have hlt := (Array.getElem?_eq_some_iff.1 h).1
  have h' : w.heap[b] = .cells cs T fr := by simpa [Array.getElem?_eq_getElem hlt] using h
  show (w.heap.modify b _)[b]? = _
  rw [Array.getElem?_eq_getElem (by simpa using hlt), Array.getElem_modify_self, h']
  rfl

theorem Try.infoMb : (Try.prog.info? 76).map (fun i => (i.zero, i.size, i.bytes)) = some (some (.agg #[.int .i64 0, .int .i64 0, .bool false, .int .u64 0]), 4, 32) := by kernel_rfl
theorem Try.infoInt : (Try.prog.info? 3).map (fun i => (i.zero, i.size, i.bytes)) = some (some (.int .i64 0), 1, 8) := by kernel_rfl

def mbCells (m : Mb) : List Value := [.int .i64 m.id, .int .i64 m.w, .bool m.on, .int .u64 m.n]
def mbA (m : Mb) : Value := .agg #[.int .i64 m.id, .int .i64 m.w, .bool m.on, .int .u64 m.n]
def rowC (l : List Mb) : List Value := l.flatMap mbCells
theorem rowC_cons (m : Mb) (l : List Mb) : rowC (m :: l) = .int .i64 m.id :: .int .i64 m.w :: .bool m.on :: .int .u64 m.n :: rowC l := by simp [rowC, mbCells]
theorem rowC_append (l k : List Mb) : rowC (l ++ k) = rowC l ++ rowC k := by simp [rowC]
theorem rowC_length : ∀ (l : List Mb), (rowC l).length = l.length * 4
  | [] => rfl
  | m :: l => by rw [rowC_cons]; simp [rowC_length l]; omega
theorem rowC_get : ∀ (l : List Mb) (j : Nat) (m : Mb), l[j]? = some m → (rowC l)[j * 4]? = some (.int .i64 m.id) ∧ (rowC l)[j * 4 + 1]? = some (.int .i64 m.w) ∧ (rowC l)[j * 4 + 2]? = some (.bool m.on) ∧ (rowC l)[j * 4 + 3]? = some (.int .u64 m.n)
  | [], j, m, h => by simp at h
  | x :: l, 0, m, h => by
    simp at h
    subst h
    exact ⟨rfl, rfl, rfl, rfl⟩
  | x :: l, j + 1, m, h => by
    have ih := rowC_get l j m (by simpa using h)
    rw [rowC_cons, show (j + 1) * 4 = j * 4 + 1 + 1 + 1 + 1 by omega]
    simpa using ih
theorem rowC_one (l : List Mb) : ∀ u ∈ rowC l, u.oneCell' = true := by
  intro u hu
  obtain ⟨m, _, hm⟩ := List.mem_flatMap.1 hu
  simp [mbCells] at hm
  rcases hm with rfl | rfl | rfl | rfl <;> rfl
theorem rowC_take : ∀ (l : List Mb) (i : Nat), (rowC l).take (i * 4) = rowC (l.take i)
  | [], i => by simp [rowC]
  | m :: l, 0 => by simp [rowC]
  | m :: l, i + 1 => by
    rw [rowC_cons, show (i + 1) * 4 = i * 4 + 1 + 1 + 1 + 1 by omega, List.take_succ_cons, List.take_succ_cons, List.take_succ_cons, List.take_succ_cons, rowC_take l i, List.take_succ_cons, rowC_cons]
theorem rowC_drop : ∀ (l : List Mb) (i : Nat), (rowC l).drop (i * 4) = rowC (l.drop i)
  | [], i => by simp [rowC]
  | m :: l, 0 => by simp [rowC]
  | m :: l, i + 1 => by
    rw [rowC_cons, show (i + 1) * 4 = i * 4 + 1 + 1 + 1 + 1 by omega, List.drop_succ_cons, List.drop_succ_cons, List.drop_succ_cons, List.drop_succ_cons, rowC_drop l i, List.drop_succ_cons]
theorem rowC_set : ∀ (l : List Mb) (j : Nat) (m x : Mb), l[j]? = some m → ((((rowC l).set (j * 4) (.int .i64 x.id)).set (j * 4 + 1) (.int .i64 x.w)).set (j * 4 + 2) (.bool x.on)).set (j * 4 + 3) (.int .u64 x.n) = rowC (l.set j x)
  | [], j, m, x, h => by simp at h
  | y :: l, 0, m, x, h => by
    rw [List.set_cons_zero, rowC_cons, rowC_cons]
    rfl
  | y :: l, j + 1, m, x, h => by
    rw [rowC_cons, List.set_cons_succ, rowC_cons, ← rowC_set l j m x (by simpa using h), show (j + 1) * 4 = j * 4 + 1 + 1 + 1 + 1 by omega]
    rfl
theorem set_self {α : Type} {l : List α} {k : Nat} {x : α} (h : l[k]? = some x) : l.set k x = l := by
  apply List.ext_getElem?
  intro i
  rw [List.getElem?_set]
  split
  · rename_i e
    subst e
    rw [if_pos (List.getElem?_eq_some_iff.1 h).1, h]
  · rfl
/-- One field is written anew. -/
theorem rowC_setW (l : List Mb) (j : Nat) (m : Mb) (h : l[j]? = some m) (x : Nat) : (rowC l).set (j * 4 + 1) (.int .i64 x) = rowC (l.set j { m with w := x }) := by
  obtain ⟨c0, c1, c2, c3⟩ := rowC_get l j m h
  rw [← rowC_set l j m _ h, set_self c0]
  rw [set_self (k := j * 4 + 2) (by rw [List.getElem?_set_ne (by omega)]; exact c2), set_self (k := j * 4 + 3) (by rw [List.getElem?_set_ne (by omega)]; exact c3)]
theorem rowC_setO (l : List Mb) (j : Nat) (m : Mb) (h : l[j]? = some m) (x : Bool) : (rowC l).set (j * 4 + 2) (.bool x) = rowC (l.set j { m with on := x }) := by
  obtain ⟨c0, c1, c2, c3⟩ := rowC_get l j m h
  rw [← rowC_set l j m _ h, set_self c0, set_self c1]
  rw [set_self (k := j * 4 + 3) (by rw [List.getElem?_set_ne (by omega)]; exact c3)]
theorem rowC_setN (l : List Mb) (j : Nat) (m : Mb) (h : l[j]? = some m) (x : Nat) : (rowC l).set (j * 4 + 3) (.int .u64 x) = rowC (l.set j { m with n := x }) := by
  obtain ⟨c0, c1, c2, c3⟩ := rowC_get l j m h
  rw [← rowC_set l j m _ h, set_self c0, set_self c1, set_self c2]

/-- A member lies at an address. -/
def MbAt (W : World) (b o : Nat) (m : Mb) : Prop :=
  W.cell? ⟨b, o, none⟩ = some (.int .i64 m.id) ∧ W.cell? ⟨b, o + 1, none⟩ = some (.int .i64 m.w) ∧ W.cell? ⟨b, o + 2, none⟩ = some (.bool m.on) ∧ W.cell? ⟨b, o + 3, none⟩ = some (.int .u64 m.n)
/-- A row of members of the ring's own. -/
abbrev RowM (W : World) (v : Value) (l : List Mb) : Prop := W.ownsRow 0 76 4 v l.length (rowC l)
theorem own_form {w : World} {base e size n : Nat} {v : Value} {xs : List Value} (h : w.ownsRow base e size v n xs) : ∃ A c, v = .slice A n c := by
  rcases h.2 with ⟨rfl, h0⟩ | ⟨g, cap, cur, rfl, _⟩
  · exact ⟨none, 0, by rw [h0]⟩
  · exact ⟨_, _, rfl⟩
theorem own_lt {w : World} {base e size n : Nat} {v : Value} {xs : List Value} (h : w.ownsRow base e size v n xs) {k : Nat} (hk : v.ownBlock = some k) : k < w.heap.size := by
  rcases h.2 with ⟨rfl, h0⟩ | ⟨g, cap, cur, rfl, hg, hh, _⟩
  · cases hk
  · cases hk
    exact heap_lt hh
theorem own_lies {W : World} {base e : Nat} {v : Value} {l : List Mb} (h : W.ownsRow base e 4 v l.length (rowC l)) (hp : 0 < l.length) :
    ∃ g cap, v = .slice (some ⟨g, 0, none⟩) l.length cap ∧ base ≤ g ∧ g < W.heap.size ∧ l.length ≤ cap ∧ cap ≤ maxLen ∧ (∀ j m, l[j]? = some m → MbAt W g (j * 4) m) ∧ ∀ j, W.frozen? ⟨g, j, none⟩ = false := by
  obtain ⟨h1, h2⟩ := h
  rcases h2 with ⟨rfl, h0⟩ | ⟨g, cap, cur, rfl, hg, hh, hn, hc, hs, ht⟩
  · omega
  · refine ⟨g, cap, rfl, hg, heap_lt hh, hn, hc, fun j m hj => ?_, fun j => by simp [World.frozen?, hh]⟩
    have hjl : j < l.length := (List.getElem?_eq_some_iff.1 hj).1
    obtain ⟨g0, g1, g2, g3⟩ := rowC_get l j m hj
    have key : ∀ (i : Nat) (u : Value), i < l.length * 4 → (rowC l)[i]? = some u → W.cell? ⟨g, i, none⟩ = some u := by
      intro i u hi hu
      rw [cell_of_row W g i _ _ (0, 0) hh, ← hu, ← ht, List.getElem?_take, if_pos hi]
      simp
    exact ⟨key _ _ (by omega) g0, key _ _ (by omega) g1, key _ _ (by omega) g2, key _ _ (by omega) g3⟩
/-- A cell of a row of a call's own is stored into. -/
theorem own_set {W : World} {base e sz n g cap k : Nat} {xs : List Value} (h : W.ownsRow base e sz (.slice (some ⟨g, 0, none⟩) n cap) n xs) (u : Value) :
    (W.setCell ⟨g, k, none⟩ u).ownsRow base e sz (.slice (some ⟨g, 0, none⟩) n cap) n (xs.set k u) := by
  obtain ⟨h1, h2⟩ := h
  refine ⟨by rw [List.length_set]; exact h1, ?_⟩
  rcases h2 with ⟨h0, _⟩ | ⟨g', cap', cur, hv, hg, hh, hn, hc, hs, ht⟩
  · cases h0
  · injection hv with e1 e2 e3
    injection e1 with e1
    injection e1 with e1
    subst e1 e3
    refine .inr ⟨g, cap, cur.setIfInBounds k u, rfl, hg, heap_setCell_mem _ _ _ _ _ _ _ hh, hn, hc, by simpa using hs, ?_⟩
    rw [← ht, Array.toList_setIfInBounds, List.take_set]
theorem own_keep {w w' : World} {base e size n : Nat} {v : Value} {xs : List Value} (h : w.ownsRow base e size v n xs) (hk : ∀ k, v.ownBlock = some k → w'.heap[k]? = w.heap[k]?) : w'.ownsRow base e size v n xs := by
  obtain ⟨h1, h2⟩ := h
  refine ⟨h1, ?_⟩
  rcases h2 with h2 | ⟨g, cap, cur, rfl, hg, hh, r⟩
  · exact .inl h2
  · exact .inr ⟨g, cap, cur, rfl, hg, (hk g rfl).trans hh, r⟩
theorem own_below {w w' : World} {base e size n : Nat} {v : Value} {xs : List Value} (h : w.ownsRow base e size v n xs) (hb : Below w.heap.size w w') : w'.ownsRow base e size v n xs := own_keep h fun k hk => hb.block k (own_lt h hk)
theorem own_mono {w : World} {base base' e size n : Nat} {v : Value} {xs : List Value} (h : w.ownsRow base e size v n xs) (hb : base' ≤ base) : w.ownsRow base' e size v n xs := by
  obtain ⟨h1, h2⟩ := h
  refine ⟨h1, ?_⟩
  rcases h2 with h2 | ⟨g, cap, cur, hv, hg, r⟩
  · exact .inl h2
  · exact .inr ⟨g, cap, cur, hv, Nat.le_trans hb hg, r⟩
theorem own_base {w : World} {base e size n : Nat} {v : Value} {xs : List Value} (h : w.ownsRow base e size v n xs) : ∀ k, v.ownBlock = some k → base ≤ k := by
  intro k hk
  rcases h.2 with ⟨h1, _⟩ | ⟨g, cap, cur, h1, h2, _⟩
  · subst h1; cases hk
  · subst h1; cases hk; exact h2
theorem below_grown {w w' : World} {row : Option Nat} {B : Nat} (hg : w.grownBy w' row) (hB : B ≤ w.heap.size) (hr : ∀ k, row = some k → B ≤ k) : Below B w w' := (Below.refl B w).grown hg hB hr
theorem cell_same {W W' : World} {b : Nat} (h : W'.heap[b]? = W.heap[b]?) (o : Nat) : W'.cell? ⟨b, o, none⟩ = W.cell? ⟨b, o, none⟩ := World.cell?_of_block (w := W) h
theorem MbAt.keep {W W' : World} {b o : Nat} {m : Mb} (h : MbAt W b o m) (hk : W'.heap[b]? = W.heap[b]?) : MbAt W' b o m :=
  have e := fun o => cell_same (W := W) (W' := W') hk o
  ⟨(e _).trans h.1, (e _).trans h.2.1, (e _).trans h.2.2.1, (e _).trans h.2.2.2⟩

/-- A ring in memory. -/
structure RingAt (W : World) (rb : Nat) (mv : Value) (s : Rg) : Prop where
  head : W.heap[rb]? = some (.cells #[.int .u64 s.lim, mv, .int .u64 s.num, .int .u64 s.den] 60 (0, 0))
  row : RowM W mv s.l
  ne : mv.ownBlock ≠ some rb
/-- Its blocks. -/
def Foot (rb : Nat) (mv : Value) : Nat → Prop := fun k => k = rb ∨ mv.ownBlock = some k
theorem RingAt.lt {W : World} {rb : Nat} {mv : Value} {s : Rg} (h : RingAt W rb mv s) : rb < W.heap.size := heap_lt h.head
theorem RingAt.foot {W : World} {rb : Nat} {mv : Value} {s : Rg} (h : RingAt W rb mv s) {k : Nat} (hk : Foot rb mv k) : k < W.heap.size := by
  rcases hk with rfl | hk
  · exact h.lt
  · exact own_lt h.row hk
theorem RingAt.keep {W W' : World} {rb : Nat} {mv : Value} {s : Rg} (h : RingAt W rb mv s) (hk : ∀ k, Foot rb mv k → W'.heap[k]? = W.heap[k]?) : RingAt W' rb mv s :=
  ⟨(hk rb (.inl rfl)).trans h.head, own_keep h.row fun k e => hk k (.inr e), h.ne⟩
theorem RingAt.below {W W' : World} {rb : Nat} {mv : Value} {s : Rg} (h : RingAt W rb mv s) (hb : Below W.heap.size W W') : RingAt W' rb mv s := h.keep fun k hk => hb.block k (h.foot hk)
theorem RingAt.drewN {W : World} {rb : Nat} {mv : Value} {s : Rg} (h : RingAt W rb mv s) (n : Nat) : RingAt (W.drewN n) rb mv s := h.keep fun _ _ => rfl
theorem RingAt.form {W : World} {rb : Nat} {mv : Value} {s : Rg} (h : RingAt W rb mv s) : ∃ A c, mv = .slice A s.l.length c := own_form h.row
/-- What the walk wants of the head. -/
theorem RingAt.heads {W : World} {rb : Nat} {mv : Value} {s : Rg} (h : RingAt W rb mv s) :
    W.cell? ⟨rb, 0, none⟩ = some (.int .u64 s.lim) ∧ W.cell? ⟨rb, 1, none⟩ = some mv ∧ W.cell? ⟨rb, 2, none⟩ = some (.int .u64 s.num) ∧ W.cell? ⟨rb, 3, none⟩ = some (.int .u64 s.den) ∧
    W.frozen? ⟨rb, 0, none⟩ = false ∧ W.frozen? ⟨rb, 1, none⟩ = false ∧ W.frozen? ⟨rb, 2, none⟩ = false ∧ W.frozen? ⟨rb, 3, none⟩ = false := by
  have e := h.head
  refine ⟨?_, ?_, ?_, ?_, ?_, ?_, ?_, ?_⟩ <;> simp [World.cell?, World.frozen?, e]
/-- A member of it: where it lies. -/
theorem RingAt.at_ {W : World} {rb : Nat} {mv : Value} {s : Rg} (h : RingAt W rb mv s) {k : Nat} {m : Mb} (hk : s.l[k]? = some m) :
    ∃ g cap, mv = .slice (some ⟨g, 0, none⟩) s.l.length cap ∧ g < W.heap.size ∧ g ≠ rb ∧ s.l.length ≤ cap ∧ cap ≤ maxLen ∧ MbAt W g (k * 4) m ∧ ∀ j, W.frozen? ⟨g, j, none⟩ = false := by
  have hn := h.ne
  obtain ⟨g, cap, rfl, _, h2, h3, h4, h5, h6⟩ := own_lies h.row (by have := (List.getElem?_eq_some_iff.1 hk).1; omega)
  exact ⟨g, cap, rfl, h2, fun e => hn (by rw [e]; rfl), h3, h4, h5 k m hk, h6⟩
/-- The kept floor is written anew. -/
theorem RingAt.last {W : World} {rb : Nat} {mv : Value} {s : Rg} (h : RingAt W rb mv s) (a b : Nat) :
    RingAt ((W.setCell ⟨rb, 2, none⟩ (.int .u64 a)).setCell ⟨rb, 3, none⟩ (.int .u64 b)) rb mv { s with num := a, den := b } := by
  refine ⟨heap_setCell_mem _ _ _ _ _ _ _ (heap_setCell_mem _ _ _ _ _ _ _ h.head), own_keep h.row fun k hk => ?_, h.ne⟩
  have hne : k ≠ rb := fun e => h.ne (by rw [← e]; exact hk)
  exact (Below.heap_setCell _ _ _ _ hne).trans (Below.heap_setCell _ _ _ _ hne)
/-- The row is written anew: another list of as many members. -/
theorem RingAt.cell {W : World} {rb g n cap : Nat} {s : Rg} (h : RingAt W rb (.slice (some ⟨g, 0, none⟩) n cap) s) (k : Nat) (u : Value) {l : List Mb} (hl : l.length = s.l.length) (hu : (rowC s.l).set k u = rowC l) :
    RingAt (W.setCell ⟨g, k, none⟩ u) rb (.slice (some ⟨g, 0, none⟩) n cap) { s with l := l } := by
  obtain ⟨A, c, hv⟩ := h.form
  injection hv with _ hn _
  subst hn
  refine ⟨(Below.heap_setCell _ _ _ _ (fun e => h.ne (by rw [e]; rfl))).trans h.head, ?_, h.ne⟩
  have := own_set (k := k) h.row u
  rw [hu] at this
  show World.ownsRow _ _ _ _ _ l.length (rowC l)
  rw [hl]
  exact this
theorem RingAt.setW {W : World} {rb g n cap k : Nat} {s : Rg} (h : RingAt W rb (.slice (some ⟨g, 0, none⟩) n cap) s) {m : Mb} (hk : s.l[k]? = some m) (x : Nat) :
    RingAt (W.setCell ⟨g, k * 4 + 1, none⟩ (.int .i64 x)) rb (.slice (some ⟨g, 0, none⟩) n cap) { s with l := s.l.set k { m with w := x } } := h.cell _ _ (by rw [List.length_set]) (rowC_setW s.l k m hk x)
theorem RingAt.setO {W : World} {rb g n cap k : Nat} {s : Rg} (h : RingAt W rb (.slice (some ⟨g, 0, none⟩) n cap) s) {m : Mb} (hk : s.l[k]? = some m) (x : Bool) :
    RingAt (W.setCell ⟨g, k * 4 + 2, none⟩ (.bool x)) rb (.slice (some ⟨g, 0, none⟩) n cap) { s with l := s.l.set k { m with on := x } } := h.cell _ _ (by rw [List.length_set]) (rowC_setO s.l k m hk x)
theorem RingAt.setN {W : World} {rb g n cap k : Nat} {s : Rg} (h : RingAt W rb (.slice (some ⟨g, 0, none⟩) n cap) s) {m : Mb} (hk : s.l[k]? = some m) (x : Nat) :
    RingAt (W.setCell ⟨g, k * 4 + 3, none⟩ (.int .u64 x)) rb (.slice (some ⟨g, 0, none⟩) n cap) { s with l := s.l.set k { m with n := x } } := h.cell _ _ (by rw [List.length_set]) (rowC_setN s.l k m hk x)

/-- The row's block is the one that was, or a new one. -/
def Grew (w : World) (mv mv' : Value) : Prop := ∀ k, mv'.ownBlock = some k → mv.ownBlock = some k ∨ w.heap.size ≤ k
theorem Grew.refl (w : World) (mv : Value) : Grew w mv mv := fun k hk => .inl hk
/-- What a call of a ring answers, and what it makes of the ring. -/
def MutPost (W : World) (rb : Nat) (mv : Value) (v : Value) (s' : Rg) (e : Ending) (w' : World) : Prop :=
  ∃ mv', e = .returned v ∧ RingAt w' rb mv' s' ∧ Apart (Foot rb mv) W w' ∧ Grew W mv mv'
theorem mut_below {W w' : World} {rb : Nat} {mv v : Value} {s : Rg} (h : RingAt W rb mv s) (hb : Below W.heap.size W w') {e : Ending} (he : e = .returned v) : MutPost W rb mv v s e w' :=
  ⟨mv, he, h.below hb, Apart.of_below hb, Grew.refl _ _⟩
/-- A ring that New did not make. -/
def Bare (W : World) (rb : Nat) : Prop := W.heap[rb]? = some (.cells #[.int .u64 0, .slice none 0 0, .int .u64 0, .int .u64 0] 60 (0, 0))
theorem Bare.heads {W : World} {rb : Nat} (h : Bare W rb) : W.cell? ⟨rb, 0, none⟩ = some (.int .u64 0) := by
  have e : W.heap[rb]? = _ := h
  simp [World.cell?, e]
theorem Bare.below {W W' : World} {rb : Nat} (h : Bare W rb) (hb : Below W.heap.size W W') : Bare W' rb := (hb.block rb (heap_lt h)).trans h
end Go.Proofs.Ytanchjcifhbllaa
