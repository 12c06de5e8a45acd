/-
  A heap in memory: where its parts lie; what a store makes of it; what is left alone.
  Conditions: none.
-/
import Derived.Test.YtademjmnoncieaaHeapState
import Derived.Test.YtademjmnoncieaaCompare
import Derived.WalkKit
import Derived.WalkLawsBesides
import Derived.Below
import Derived.Lib.Hide
import Derived.Handy
import Derived.ProofKit
import Derived.Deep.LoopGhost
import Derived.Deep.QuietTactic
import Derived.BigQuiet
import Derived.IntWalk
import Derived.LoopTactic
import Derived.OwnWalk
import Derived.Laws.MakeOwn
import Derived.Laws.Rows
import Derived.OpenShut
import Derived.Deep.RegionHeld3
import Derived.Deep.AppendLies
set_option linter.unusedVariables false
namespace Go.Proofs.Ytademjmnoncieaa
open Go.RowKit

/-- What a call answers that reads only. -/
def Ret6 (v : Value) (w : World) (e : Ending) (w' : World) : Prop := e = .returned v ∧ w = w'
/-- What a call answers that makes memory, and leaves all that was. -/
def RetB6 (v : Value) (w : World) (e : Ending) (w' : World) : Prop := e = .returned v ∧ Below w.heap.size w w'

theorem below6_drewN {B : Nat} {a w : World} (h : Below B a w) (n : Nat) : Below B a (w.drewN n) := ⟨h.os, h.tape, h.output, h.size, h.block⟩

/-- But for the blocks of F, what was there is as it was. -/
structure Apart (F : Nat → Prop) (w w' : World) : Prop where
  os : w'.os = w.os
  tape : w'.tape = w.tape
  output : w'.output = w.output
  size : w.heap.size ≤ w'.heap.size
  block : ∀ k, k < w.heap.size → ¬ F k → w'.heap[k]? = w.heap[k]?
theorem Apart.refl (F : Nat → Prop) (w : World) : Apart F w w := ⟨rfl, rfl, rfl, Nat.le_refl _, fun _ _ _ => rfl⟩
theorem Apart.trans {F F' : Nat → Prop} {a b c : World} (h : Apart F a b) (k : Apart F' b c) (hF : ∀ x, x < a.heap.size → F' x → F x) : Apart F a c :=
  ⟨k.os.trans h.os, k.tape.trans h.tape, k.output.trans h.output, Nat.le_trans h.size k.size, fun x hx hn => (k.block x (Nat.lt_of_lt_of_le hx h.size) (fun hf => hn (hF x hx hf))).trans (h.block x hx hn)⟩
theorem Apart.of_below {F : Nat → Prop} {w w' : World} (h : Below w.heap.size w w') : Apart F w w' := ⟨h.os, h.tape, h.output, h.size, fun k hk _ => h.block k hk⟩
theorem Apart.below {F : Nat → Prop} {B : Nat} {w w' : World} (h : Apart F w w') (hB : B ≤ w.heap.size) (hF : ∀ k, k < B → ¬ F k) : Below B w w' :=
  ⟨h.os, h.tape, h.output, h.size, fun k hk => h.block k (by omega) (hF k hk)⟩
theorem Apart.set {F : Nat → Prop} {a w : World} (h : Apart F a w) {p : Addr} (hp : F p.block ∨ a.heap.size ≤ p.block) (u : Value) : Apart F a (w.setCell p u) :=
  h.trans (F' := fun k => k = p.block) ⟨rfl, rfl, rfl, by simp [World.setCell], fun k hk hn => Below.heap_setCell _ _ _ _ hn⟩ (fun x hx e => by
    subst e
    rcases hp with hp | hp
    · exact hp
    · omega)
theorem Apart.drewN {F : Nat → Prop} {a w : World} (h : Apart F a w) (n : Nat) : Apart F a (w.drewN n) := ⟨h.os, h.tape, h.output, h.size, h.block⟩
theorem Apart.mono {F F' : Nat → Prop} {w w' : World} (h : Apart F w w') (hF : ∀ k, k < w.heap.size → F k → F' k) : Apart F' w w' := ⟨h.os, h.tape, h.output, h.size, fun k hk hn => h.block k hk (fun hf => hn (hF k hk hf))⟩

/-- The keys. -/
def KeysAt (W : World) (kb : Nat) (s : Hs) : Prop :=
  ∃ arr, W.heap[kb]? = some (.cells arr 61 (0, 0)) ∧ arr.size = s.n * 3 ∧
    ∀ i, i < s.n → arr[i * 3]? = some (.int .u64 (s.num i)) ∧ arr[i * 3 + 1]? = some (.int .u64 (s.den i)) ∧ arr[i * 3 + 2]? = some (.int .i64 (s.pl i))
/-- The row. -/
def LineAt (W : World) (lv : Value) (m : Nat) (L : Nat → Nat) : Prop :=
  (lv = .slice none 0 0 ∧ m = 0) ∨ ∃ g cap cur, lv = .slice (some ⟨g, 0, none⟩) m cap ∧ W.heap[g]? = some (.cells cur 3 (0, 0)) ∧ m ≤ cap ∧ cap ≤ maxLen ∧ cur.size = cap ∧
    ∀ i, i < m → cur[i]? = some (.int .i64 (L i))
structure HeapAt (W : World) (hb kb : Nat) (lv : Value) (s : Hs) : Prop where
  head : W.heap[hb]? = some (.cells #[.slice (some ⟨kb, 0, none⟩) s.n s.n, lv] 53 (0, 0))
  keys : KeysAt W kb s
  line : LineAt W lv s.m s.L
  ne1 : hb ≠ kb
  ne2 : lv.ownBlock ≠ some hb
  ne3 : lv.ownBlock ≠ some kb
  n0 : 0 < s.n
  n1 : s.n ≤ 1024
  m1 : s.m ≤ 100000
  w1 : ∀ i, i < s.n → s.num i < 18446744073709551616
  w2 : ∀ i, i < s.n → s.den i < 18446744073709551616
/-- Its blocks. -/
def Foot (hb kb : Nat) (lv : Value) : Nat → Prop := fun k => k = hb ∨ k = kb ∨ lv.ownBlock = some k

theorem heap_lt {W : World} {b : Nat} {o : Obj} (h : W.heap[b]? = some o) : b < W.heap.size := (Array.getElem?_eq_some_iff.1 h).1
theorem HeapAt.lt1 {W : World} {hb kb : Nat} {lv : Value} {s : Hs} (h : HeapAt W hb kb lv s) : hb < W.heap.size := heap_lt h.head
theorem HeapAt.lt2 {W : World} {hb kb : Nat} {lv : Value} {s : Hs} (h : HeapAt W hb kb lv s) : kb < W.heap.size := by obtain ⟨_, e, _⟩ := h.keys; exact heap_lt e
theorem HeapAt.lt3 {W : World} {hb kb : Nat} {lv : Value} {s : Hs} (h : HeapAt W hb kb lv s) {k : Nat} (hk : lv.ownBlock = some k) : k < W.heap.size := by
  rcases h.line with ⟨rfl, _⟩ | ⟨g, cap, cur, rfl, e, _⟩
  · cases hk
  · injection hk with hk
    subst hk
    exact heap_lt e
theorem HeapAt.foot {W : World} {hb kb : Nat} {lv : Value} {s : Hs} (h : HeapAt W hb kb lv s) {k : Nat} (hk : Foot hb kb lv k) : k < W.heap.size := by
  rcases hk with rfl | rfl | hk
  · exact h.lt1
  · exact h.lt2
  · exact h.lt3 hk
/-- What leaves its blocks leaves the heap. -/
theorem HeapAt.keep {W W' : World} {hb kb : Nat} {lv : Value} {s : Hs} (h : HeapAt W hb kb lv s) (hk : ∀ k, Foot hb kb lv k → W'.heap[k]? = W.heap[k]?) : HeapAt W' hb kb lv s where
  head := (hk hb (.inl rfl)).trans h.head
  keys := by
    obtain ⟨arr, e, r⟩ := h.keys
    exact ⟨arr, (hk kb (.inr (.inl rfl))).trans e, r⟩
  line := by
    rcases h.line with h0 | ⟨g, cap, cur, rfl, e, r⟩
    · exact .inl h0
    · exact .inr ⟨g, cap, cur, rfl, (hk g (.inr (.inr rfl))).trans e, r⟩
  ne1 := h.ne1
  ne2 := h.ne2
  ne3 := h.ne3
  n0 := h.n0
  n1 := h.n1
  m1 := h.m1
  w1 := h.w1
  w2 := h.w2
theorem HeapAt.below {W W' : World} {hb kb : Nat} {lv : Value} {s : Hs} (h : HeapAt W hb kb lv s) (hk : Below W.heap.size W W') : HeapAt W' hb kb lv s := h.keep fun k hf => hk.block k (h.foot hf)
theorem HeapAt.drewN {W : World} {hb kb : Nat} {lv : Value} {s : Hs} (h : HeapAt W hb kb lv s) (n : Nat) : HeapAt (W.drewN n) hb kb lv s := h.keep fun k hf => rfl

/-- What the walk wants of the head. -/
theorem HeapAt.heads {W : World} {hb kb : Nat} {lv : Value} {s : Hs} (h : HeapAt W hb kb lv s) :
    W.cell? ⟨hb, 0, none⟩ = some (.slice (some ⟨kb, 0, none⟩) s.n s.n) ∧ W.cell? ⟨hb, 1, none⟩ = some lv ∧ W.frozen? ⟨hb, 0, none⟩ = false ∧ W.frozen? ⟨hb, 1, none⟩ = false := by
  have e := h.head
  refine ⟨?_, ?_, ?_, ?_⟩ <;> simp [World.cell?, World.frozen?, e]
theorem HeapAt.key {W : World} {hb kb : Nat} {lv : Value} {s : Hs} (h : HeapAt W hb kb lv s) {x : Nat} (hx : x < s.n) :
    W.cell? ⟨kb, x * 3, none⟩ = some (.int .u64 (s.num x)) ∧ W.cell? ⟨kb, x * 3 + 1, none⟩ = some (.int .u64 (s.den x)) ∧ W.cell? ⟨kb, x * 3 + 2, none⟩ = some (.int .i64 (s.pl x)) := by
  obtain ⟨arr, e, hs, hc⟩ := h.keys
  obtain ⟨c0, c1, c2⟩ := hc x hx
  refine ⟨?_, ?_, ?_⟩ <;> rw [cell_of_row W kb _ _ _ (0, 0) e] <;> assumption
theorem HeapAt.keyf {W : World} {hb kb : Nat} {lv : Value} {s : Hs} (h : HeapAt W hb kb lv s) (j : Nat) : W.frozen? ⟨kb, j, none⟩ = false := by
  obtain ⟨arr, e, hs, hc⟩ := h.keys
  simp [World.frozen?, e]
/-- A row with somebody in it: where it lies. -/
theorem HeapAt.row {W : World} {hb kb : Nat} {lv : Value} {s : Hs} (h : HeapAt W hb kb lv s) (hm : 0 < s.m) :
    ∃ g cap, lv = .slice (some ⟨g, 0, none⟩) s.m cap ∧ s.m ≤ cap ∧ cap ≤ maxLen ∧ g ≠ hb ∧ g ≠ kb ∧ g < W.heap.size ∧ (∀ i, i < s.m → W.cell? ⟨g, i, none⟩ = some (.int .i64 (s.L i))) ∧ (∀ j, W.frozen? ⟨g, j, none⟩ = false) := by
  have n2 := h.ne2
  have n3 := h.ne3
  rcases h.line with ⟨_, h0⟩ | ⟨g, cap, cur, rfl, e, h1, h2, h3, hc⟩
  · omega
  · refine ⟨g, cap, rfl, h1, h2, fun e => n2 (by rw [e]; rfl), fun e => n3 (by rw [e]; rfl), heap_lt e, fun i hi => ?_, fun j => by simp [World.frozen?, e]⟩
    rw [cell_of_row W g _ _ _ (0, 0) e]
    exact hc i hi

theorem arr_set {arr : Array Value} {k : Nat} {v : Value} (h : k < arr.size) (j : Nat) : (arr.setIfInBounds k v)[j]? = if j = k then some v else arr[j]? := by
  rw [Array.getElem?_setIfInBounds]
  by_cases e : k = j
  · subst e; simp [h]
  · rw [if_neg e, if_neg (fun e' => e e'.symm)]

/-- A place in the row is written. -/
theorem HeapAt.set_line {W : World} {hb kb g cap : Nat} {s : Hs} {n : Nat} (h : HeapAt W hb kb (.slice (some ⟨g, 0, none⟩) n cap) s) {i : Nat} (hi : i < s.m) (x : Nat) :
    HeapAt (W.setCell ⟨g, i, none⟩ (.int .i64 x)) hb kb (.slice (some ⟨g, 0, none⟩) n cap) { s with L := upd s.L i x } where
  head := (Below.heap_setCell _ _ _ _ (fun e => h.ne2 (by rw [e]; rfl))).trans h.head
  keys := by
    obtain ⟨arr, e, r⟩ := h.keys
    exact ⟨arr, (Below.heap_setCell _ _ _ _ (fun e => h.ne3 (by rw [e]; rfl))).trans e, r⟩
  line := by
    rcases h.line with ⟨h0, _⟩ | ⟨g', cap', cur, hv, e, h1, h2, h3, hc⟩
    · cases h0
    · injection hv with e1 e2 e3
      injection e1 with e1
      injection e1 with e1
      subst e1 e3
      refine .inr ⟨g, cap, _, by rw [e2], heap_setCell_at _ _ _ _ _ _ _ e, h1, h2, by simpa using h3, fun j hj => ?_⟩
      have hj' : j < s.m := hj
      have h1' : s.m ≤ cap := h1
      rw [arr_set (by omega)]
      show _ = some (Value.int .i64 ((upd s.L i x j : Nat) : Int))
      unfold upd
      split
      · rfl
      · exact hc j hj
  ne1 := h.ne1
  ne2 := h.ne2
  ne3 := h.ne3
  n0 := h.n0
  n1 := h.n1
  m1 := h.m1
  w1 := h.w1
  w2 := h.w2

/-- A cell of the keys is written. -/
theorem HeapAt.set_key {W : World} {hb kb : Nat} {lv : Value} {s s' : Hs} (h : HeapAt W hb kb lv s) {k : Nat} {v : Value} (hn : s'.n = s.n) (hm : s'.m = s.m) (hL : s'.L = s.L) (hk : k < s.n * 3)
    (hc : ∀ i, i < s.n → (if i * 3 = k then v else .int .u64 (s.num i)) = .int .u64 (s'.num i) ∧ (if i * 3 + 1 = k then v else .int .u64 (s.den i)) = .int .u64 (s'.den i) ∧ (if i * 3 + 2 = k then v else .int .i64 (s.pl i)) = .int .i64 (s'.pl i))
    (h1 : ∀ i, i < s.n → s'.num i < 18446744073709551616) (h2 : ∀ i, i < s.n → s'.den i < 18446744073709551616) :
    HeapAt (W.setCell ⟨kb, k, none⟩ v) hb kb lv s' where
  head := by rw [hn]; exact (Below.heap_setCell _ _ _ _ h.ne1).trans h.head
  keys := by
    obtain ⟨arr, e, hs, hr⟩ := h.keys
    refine ⟨_, heap_setCell_at _ _ _ _ _ _ _ e, by rw [hn]; simpa using hs, fun i hi => ?_⟩
    rw [hn] at hi
    obtain ⟨c0, c1, c2⟩ := hr i hi
    obtain ⟨d0, d1, d2⟩ := hc i hi
    rw [arr_set (by omega), arr_set (by omega), arr_set (by omega), c0, c1, c2, ← d0, ← d1, ← d2]
    refine ⟨?_, ?_, ?_⟩ <;> split <;> rfl
  line := by
    rw [hm, hL]
    rcases h.line with h0 | ⟨g, cap, cur, rfl, e, r⟩
    · exact .inl h0
    · exact .inr ⟨g, cap, cur, rfl, (Below.heap_setCell _ _ _ _ (fun e => h.ne3 (by have e' : g = kb := e; rw [e']; rfl))).trans e, r⟩
  ne1 := h.ne1
  ne2 := h.ne2
  ne3 := h.ne3
  n0 := by rw [hn]; exact h.n0
  n1 := by rw [hn]; exact h.n1
  m1 := by rw [hm]; exact h.m1
  w1 := fun i hi => h1 i (by rwa [hn] at hi)
  w2 := fun i hi => h2 i (by rwa [hn] at hi)
theorem HeapAt.set_pl {W : World} {hb kb : Nat} {lv : Value} {s : Hs} (h : HeapAt W hb kb lv s) {x : Nat} (hx : x < s.n) (v : Nat) :
    HeapAt (W.setCell ⟨kb, x * 3 + 2, none⟩ (.int .i64 v)) hb kb lv { s with pl := upd s.pl x v } := by
  refine h.set_key rfl rfl rfl (by omega) (fun i hi => ⟨?_, ?_, ?_⟩) h.w1 h.w2
  · rw [if_neg (by omega)]
  · rw [if_neg (by omega)]
  · show _ = Value.int .i64 ((upd s.pl x v i : Nat) : Int)
    unfold upd
    by_cases e : i = x
    · rw [if_pos (by omega), if_pos e]
    · rw [if_neg (by omega), if_neg e]
theorem HeapAt.set_num {W : World} {hb kb : Nat} {lv : Value} {s : Hs} (h : HeapAt W hb kb lv s) {x : Nat} (hx : x < s.n) {v : Nat} (hv : v < 18446744073709551616) :
    HeapAt (W.setCell ⟨kb, x * 3, none⟩ (.int .u64 v)) hb kb lv { s with num := upd s.num x v } := by
  refine h.set_key rfl rfl rfl (by omega) (fun i hi => ⟨?_, ?_, ?_⟩) (fun i hi => ?_) h.w2
  · show _ = Value.int .u64 ((upd s.num x v i : Nat) : Int)
    unfold upd
    by_cases e : i = x
    · rw [if_pos (by omega), if_pos e]
    · rw [if_neg (by omega), if_neg e]
  · rw [if_neg (by omega)]
  · rw [if_neg (by omega)]
  · show upd s.num x v i < _
    unfold upd
    split
    · exact hv
    · exact h.w1 i hi
theorem HeapAt.set_den {W : World} {hb kb : Nat} {lv : Value} {s : Hs} (h : HeapAt W hb kb lv s) {x : Nat} (hx : x < s.n) {v : Nat} (hv : v < 18446744073709551616) :
    HeapAt (W.setCell ⟨kb, x * 3 + 1, none⟩ (.int .u64 v)) hb kb lv { s with den := upd s.den x v } := by
  refine h.set_key rfl rfl rfl (by omega) (fun i hi => ⟨?_, ?_, ?_⟩) h.w1 (fun i hi => ?_)
  · rw [if_neg (by omega)]
  · show _ = Value.int .u64 ((upd s.den x v i : Nat) : Int)
    unfold upd
    by_cases e : i = x
    · rw [if_pos (by omega), if_pos e]
    · rw [if_neg (by omega), if_neg e]
  · rw [if_neg (by omega)]
  · show upd s.den x v i < _
    unfold upd
    split
    · exact hv
    · exact h.w2 i hi
theorem swapF_upd (L : Nat → Nat) (a b : Nat) : upd (upd L a (L b)) b (L a) = swapF L a b := by
  funext i
  unfold upd swapF
  by_cases h1 : i = b
  · subst h1
    by_cases h2 : i = a
    · subst h2; simp
    · simp [h2]
  · simp [h1]
end Go.Proofs.Ytademjmnoncieaa
