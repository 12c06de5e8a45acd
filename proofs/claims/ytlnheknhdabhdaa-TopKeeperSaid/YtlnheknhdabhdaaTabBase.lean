/-
  What a call leaves alone; rows of ints of the call's own; what both kinds of tables share.
  Conditions: none.
-/
import Derived.Test.YtlnheknhdabhdaaSlotMath
import Derived.Test.YtlnheknhdabhdaaProg
import Derived.WalkKit
import Derived.WalkLawsBesides
import Derived.Below
import Derived.Lib.Hide
import Derived.Handy
import Derived.ProofKit
import Derived.Deep.LoopGhost
import Derived.Deep.QuietTactic
import Derived.BigQuiet
import Derived.IntWalk
import Derived.LoopTactic
import Derived.OwnWalk
import Derived.Laws.MakeOwn
import Derived.Laws.Rows
import Derived.OpenShut
import Derived.Deep.RegionHeld3
import Derived.Deep.AppendLies
import Derived.Maps.AppendAt
import Derived.WalkSpells
import Derived.Lib.SliceRun
import Derived.BigRegion
set_option linter.unusedVariables false
namespace Go.Proofs.Ytlnheknhdabhdaa
open Go.RowKit

/-- What a call answers that reads only. -/
def Ret (v : Value) (w : World) (e : Ending) (w' : World) : Prop := e = .returned v ∧ w = w'
/-- What a call answers that makes memory, and leaves all that was. -/
def RetB (v : Value) (w : World) (e : Ending) (w' : World) : Prop := e = .returned v ∧ Below w.heap.size w w'
theorem below_drewN {B : Nat} {a w : World} (h : Below B a w) (n : Nat) : Below B a (w.drewN n) := ⟨h.os, h.tape, h.output, h.size, h.block⟩
theorem heap_lt {W : World} {b : Nat} {o : Obj} (h : W.heap[b]? = some o) : b < W.heap.size := (Array.getElem?_eq_some_iff.1 h).1
theorem wrap64_small {i : Int} (h0 : -9223372036854775808 ≤ i) (h1 : i ≤ 9223372036854775807) : wrap64 i = i := IntWalk.wrap64_in i ⟨h0, h1⟩

/-- But for the blocks of F, what was there is as it was. -/
structure Apart (F : Nat → Prop) (w w' : World) : Prop where
  os : w'.os = w.os
  tape : w'.tape = w.tape
  output : w'.output = w.output
  size : w.heap.size ≤ w'.heap.size
  block : ∀ k, k < w.heap.size → ¬ F k → w'.heap[k]? = w.heap[k]?
theorem Apart.refl (F : Nat → Prop) (w : World) : Apart F w w := ⟨rfl, rfl, rfl, Nat.le_refl _, fun _ _ _ => rfl⟩
theorem Apart.trans {F F' : Nat → Prop} {a b c : World} (h : Apart F a b) (k : Apart F' b c) (hF : ∀ x, x < a.heap.size → F' x → F x) : Apart F a c :=
  ⟨k.os.trans h.os, k.tape.trans h.tape, k.output.trans h.output, Nat.le_trans h.size k.size, fun x hx hn => (k.block x (Nat.lt_of_lt_of_le hx h.size) (fun hf => hn (hF x hx hf))).trans (h.block x hx hn)⟩
theorem Apart.of_below {F : Nat → Prop} {w w' : World} (h : Below w.heap.size w w') : Apart F w w' := ⟨h.os, h.tape, h.output, h.size, fun k hk _ => h.block k hk⟩
theorem Apart.below {F : Nat → Prop} {B : Nat} {w w' : World} (h : Apart F w w') (hB : B ≤ w.heap.size) (hF : ∀ k, k < B → ¬ F k) : Below B w w' :=
  ⟨h.os, h.tape, h.output, h.size, fun k hk => h.block k (by omega) (hF k hk)⟩
theorem Apart.set {F : Nat → Prop} {a w : World} (h : Apart F a w) {p : Addr} (hp : F p.block ∨ a.heap.size ≤ p.block) (u : Value) : Apart F a (w.setCell p u) :=
  h.trans (F' := fun k => k = p.block) ⟨rfl, rfl, rfl, by simp [World.setCell], fun k hk hn => Below.heap_setCell _ _ _ _ hn⟩ (fun x hx e => by
    subst e
    rcases hp with hp | hp
    · exact hp
    · omega)
theorem Apart.drewN {F : Nat → Prop} {a w : World} (h : Apart F a w) (n : Nat) : Apart F a (w.drewN n) := ⟨h.os, h.tape, h.output, h.size, h.block⟩

theorem arr_set {arr : Array Value} {k : Nat} {v : Value} (h : k < arr.size) (j : Nat) : (arr.setIfInBounds k v)[j]? = if j = k then some v else arr[j]? := by
  rw [Array.getElem?_setIfInBounds]
  by_cases e : k = j
  · subst e; simp [h]
  · rw [if_neg e, if_neg (fun e' => e e'.symm)]

theorem heap_setCell_at (w : World) (b o : Nat) (cs : Array Value) (T : TypeId) (fr : Nat × Nat) (x : Value) (h : w.heap[b]? = some (.cells cs T fr)) : (w.setCell ⟨b, o, none⟩ x).heap[b]? = some (.cells (cs.setIfInBounds o x) T fr) := by
  have hlt := (Array.getElem?_eq_some_iff.1 h).1
  have h' : w.heap[b] = .cells cs T fr := by simpa [Array.getElem?_eq_getElem hlt] using h
  show (w.heap.modify b _)[b]? = _
  rw [Array.getElem?_eq_getElem (by simpa using hlt), Array.getElem_modify_self, h']
  rfl

theorem Try.infoInt : (Try.prog.info? 3).map (fun i => (i.zero, i.size, i.bytes)) = some (some (.int .i64 0), 1, 8) := by kernel_rfl

/-- A row of ints in a block of its own. -/
def LineAt (W : World) (lv : Value) (m : Nat) (L : Nat → Nat) : Prop :=
  (lv = .slice none 0 0 ∧ m = 0) ∨ ∃ g cap cur, lv = .slice (some ⟨g, 0, none⟩) m cap ∧ W.heap[g]? = some (.cells cur 3 (0, 0)) ∧ m ≤ cap ∧ cap ≤ maxLen ∧ cur.size = cap ∧
    ∀ i, i < m → cur[i]? = some (.int .i64 (L i))
theorem LineAt.form {W : World} {lv : Value} {m : Nat} {L : Nat → Nat} (h : LineAt W lv m L) : ∃ A c, lv = .slice A m c := by
  rcases h with ⟨rfl, h0⟩ | ⟨g, cap, cur, rfl, _⟩
  · exact ⟨none, 0, by rw [h0]⟩
  · exact ⟨_, _, rfl⟩
theorem LineAt.lt {W : World} {lv : Value} {m : Nat} {L : Nat → Nat} (h : LineAt W lv m L) {k : Nat} (hk : lv.ownBlock = some k) : k < W.heap.size := by
  rcases h with ⟨rfl, _⟩ | ⟨g, cap, cur, rfl, e, _⟩
  · cases hk
  · injection hk with hk
    subst hk
    exact heap_lt e
theorem LineAt.keep {W W' : World} {lv : Value} {m : Nat} {L : Nat → Nat} (h : LineAt W lv m L) (hk : ∀ k, lv.ownBlock = some k → W'.heap[k]? = W.heap[k]?) : LineAt W' lv m L := by
  rcases h with h0 | ⟨g, cap, cur, rfl, e, r⟩
  · exact .inl h0
  · exact .inr ⟨g, cap, cur, rfl, (hk g rfl).trans e, r⟩
/-- A row with somebody in it: where it lies. -/
theorem LineAt.row {W : World} {lv : Value} {m : Nat} {L : Nat → Nat} (h : LineAt W lv m L) (hm : 0 < m) :
    ∃ g cap, lv = .slice (some ⟨g, 0, none⟩) m cap ∧ m ≤ cap ∧ cap ≤ maxLen ∧ g < W.heap.size ∧ (∀ i, i < m → W.cell? ⟨g, i, none⟩ = some (.int .i64 (L i))) ∧ (∀ j, W.frozen? ⟨g, j, none⟩ = false) := by
  rcases h with ⟨_, h0⟩ | ⟨g, cap, cur, rfl, e, h1, h2, h3, hc⟩
  · omega
  · refine ⟨g, cap, rfl, h1, h2, heap_lt e, fun i hi => ?_, fun j => by simp [World.frozen?, e]⟩
    rw [cell_of_row W g _ _ _ (0, 0) e]
    exact hc i hi
theorem LineAt.cut {W : World} {g n cap m m' : Nat} {L : Nat → Nat} (h : LineAt W (.slice (some ⟨g, 0, none⟩) n cap) m L) (hm : m' ≤ m) : LineAt W (.slice (some ⟨g, 0, none⟩) m' cap) m' L := by
  rcases h with ⟨h0, _⟩ | ⟨g', cap', cur, hv, e, h1, h2, h3, hc⟩
  · cases h0
  · injection hv with e1 e2 e3
    injection e1 with e1
    injection e1 with e1
    subst e1 e3
    exact .inr ⟨g, cap, cur, rfl, e, by omega, h2, h3, fun i hi => hc i (by omega)⟩

def lineCells (L : Nat → Nat) (m : Nat) : List Value := (List.range m).map fun i => .int .i64 (L i)
theorem lineCells_length (L : Nat → Nat) (m : Nat) : (lineCells L m).length = m := by simp [lineCells]
theorem lineCells_get (L : Nat → Nat) (m i : Nat) (h : i < m) : (lineCells L m)[i]? = some (.int .i64 (L i)) := by simp [lineCells, h]
theorem LineAt.own {W : World} {lv : Value} {m : Nat} {L : Nat → Nat} (h : LineAt W lv m L) : W.ownsRow 0 3 1 lv m (lineCells L m) := by
  refine ⟨by rw [lineCells_length, Nat.mul_one], ?_⟩
  rcases h with h0 | ⟨g, cap, cur, rfl, e, h1, h2, h3, hc⟩
  · exact .inl h0
  · refine .inr ⟨g, cap, cur, rfl, Nat.zero_le _, e, h1, h2, by rw [h3, Nat.mul_one], ?_⟩
    apply List.ext_getElem?
    intro i
    rw [List.getElem?_take, Nat.mul_one]
    by_cases hi : i < m
    · rw [if_pos hi, lineCells_get _ _ _ hi, ← hc i hi]
      simp
    · rw [if_neg hi, List.getElem?_eq_none (by rw [lineCells_length]; omega)]
theorem LineAt.of_own {W : World} {lv : Value} {m x : Nat} {L : Nat → Nat} (h : W.ownsRow 0 3 1 lv (m + 1) (lineCells L m ++ [.int .i64 x])) : LineAt W lv (m + 1) (upd L m x) := by
  obtain ⟨h1, h2⟩ := h
  rcases h2 with ⟨rfl, h0⟩ | ⟨g, cap, cur, rfl, hg, hh, hn, hc, hs, ht⟩
  · omega
  · refine .inr ⟨g, cap, cur, rfl, hh, hn, hc, by rw [hs, Nat.mul_one], fun i hi => ?_⟩
    have e : cur[i]? = (lineCells L m ++ [Value.int .i64 x])[i]? := by
      rw [← ht, List.getElem?_take, if_pos (by omega)]
      simp
    rw [e]
    unfold upd
    by_cases hi' : i = m
    · subst hi'
      rw [List.getElem?_append_right (by rw [lineCells_length]; omega), lineCells_length, if_pos rfl]
      simp
    · rw [List.getElem?_append_left (by rw [lineCells_length]; omega), lineCells_get _ _ _ (by omega), if_neg hi']

theorem own_form {w : World} {base e size n : Nat} {v : Value} {xs : List Value} (h : w.ownsRow base e size v n xs) : ∃ A c, v = .slice A n c := by
  rcases h.2 with ⟨rfl, h0⟩ | ⟨g, cap, cur, rfl, _⟩
  · exact ⟨none, 0, by rw [h0]⟩
  · exact ⟨_, _, rfl⟩
theorem own_base {w : World} {base e size n : Nat} {v : Value} {xs : List Value} (h : w.ownsRow base e size v n xs) : ∀ k, v.ownBlock = some k → base ≤ k := by
  intro k hk
  rcases h.2 with ⟨h1, _⟩ | ⟨g, cap, cur, h1, h2, _⟩
  · subst h1; cases hk
  · subst h1; cases hk; exact h2
theorem own_below {w w' : World} {base e size n : Nat} {v : Value} {xs : List Value} (h : w.ownsRow base e size v n xs) (hb : Below w.heap.size w w') : w'.ownsRow base e size v n xs := by
  obtain ⟨h1, h2⟩ := h
  refine ⟨h1, ?_⟩
  rcases h2 with h2 | ⟨g, cap, cur, hv, hg, hh, r⟩
  · exact .inl h2
  · exact .inr ⟨g, cap, cur, hv, hg, by rw [hb.block g (Array.getElem?_eq_some_iff.1 hh).1]; exact hh, r⟩
theorem own_mono {w : World} {base base' e size n : Nat} {v : Value} {xs : List Value} (h : w.ownsRow base e size v n xs) (hb : base' ≤ base) : w.ownsRow base' e size v n xs := by
  obtain ⟨h1, h2⟩ := h
  refine ⟨h1, ?_⟩
  rcases h2 with h2 | ⟨g, cap, cur, hv, hg, r⟩
  · exact .inl h2
  · exact .inr ⟨g, cap, cur, hv, Nat.le_trans hb hg, r⟩
theorem own_draw {w : World} {base e size n : Nat} {v : Value} {xs : List Value} (h : w.ownsRow base e size v n xs) (q : Nat) : (w.drewN q).ownsRow base e size v n xs := h
theorem below_grown {w w' : World} {row : Option Nat} {B : Nat} (hg : w.grownBy w' row) (hB : B ≤ w.heap.size) (hr : ∀ k, row = some k → B ≤ k) : Below B w w' := (Below.refl B w).grown hg hB hr
theorem cell_of_same {W W' : World} {b : Nat} (h : W'.heap[b]? = W.heap[b]?) (o : Nat) : W'.cell? ⟨b, o, none⟩ = W.cell? ⟨b, o, none⟩ := World.cell?_of_block (w := W) h

/-- The row's block is the one that was, or a new one. -/
def Grew (w : World) (lv lv' : Value) : Prop := ∀ k, lv'.ownBlock = some k → lv.ownBlock = some k ∨ w.heap.size ≤ k
theorem Grew.refl (w : World) (lv : Value) : Grew w lv lv := fun k hk => .inl hk

theorem new0 (W : World) (n j : Nat) (cs : Array Value) (T : TypeId) : ((W.drewN n).alloc (.cells cs T)).cell? ⟨W.heap.size, j, none⟩ = cs[j]? ∧ ((W.drewN n).alloc (.cells cs T)).frozen? ⟨W.heap.size, j, none⟩ = false :=
  ⟨World.cell?_alloc_new (w := W.drewN n) cs T j, World.frozen?_alloc_new (w := W.drewN n) cs T j⟩
theorem ex_at {α : Type} {xs : List α} {k : Nat} (h : k < xs.length) : ∃ x, xs[k]? = some x := ⟨xs[k], List.getElem?_eq_getElem h⟩
end Go.Proofs.Ytlnheknhdabhdaa
