/-
  A table of uint64 in memory: where its parts lie; what a store makes of it.
  Conditions: none.
-/
import Derived.Test.YtlnheknhdabhdaaTabBase
set_option linter.unusedVariables false
namespace Go.Proofs.Ytlnheknhdabhdaa.TU
open Go.RowKit

theorem infoSlot : (Try.prog.info? 71).map (fun i => (i.zero, i.size, i.bytes)) = some (some (.agg #[.int .u64 0, .int .i64 0, .bool false]), 3, 24) := by kernel_rfl

/-- The slots that have been in use. -/
def SlotsAt (W : World) (sv : Value) (m : Nat) (x : Nat → Int) (gen : Nat → Nat) (use : Nat → Bool) : Prop :=
  (sv = .slice none 0 0 ∧ m = 0) ∨ ∃ g cap cur, sv = .slice (some ⟨g, 0, none⟩) m cap ∧ W.heap[g]? = some (.cells cur 71 (0, 0)) ∧ m ≤ cap ∧ cap ≤ maxLen ∧ cur.size = cap * 3 ∧
    ∀ i, i < m → cur[i * 3]? = some (Value.int .u64 (x i)) ∧ cur[i * 3 + 1]? = some (.int .i64 (gen i)) ∧ cur[i * 3 + 2]? = some (.bool (use i))
theorem SlotsAt.form {W : World} {sv : Value} {m : Nat} {x : Nat → Int} {gen : Nat → Nat} {use : Nat → Bool} (h : SlotsAt W sv m x gen use) : ∃ A c, sv = .slice A m c := by
  rcases h with ⟨rfl, h0⟩ | ⟨g, cap, cur, rfl, _⟩
  · exact ⟨none, 0, by rw [h0]⟩
  · exact ⟨_, _, rfl⟩
theorem SlotsAt.lt {W : World} {sv : Value} {m : Nat} {x : Nat → Int} {gen : Nat → Nat} {use : Nat → Bool} (h : SlotsAt W sv m x gen use) {k : Nat} (hk : sv.ownBlock = some k) : k < W.heap.size := by
  rcases h with ⟨rfl, _⟩ | ⟨g, cap, cur, rfl, e, _⟩
  · cases hk
  · injection hk with hk
    subst hk
    exact heap_lt e
theorem SlotsAt.keep {W W' : World} {sv : Value} {m : Nat} {x : Nat → Int} {gen : Nat → Nat} {use : Nat → Bool} (h : SlotsAt W sv m x gen use) (hk : ∀ k, sv.ownBlock = some k → W'.heap[k]? = W.heap[k]?) : SlotsAt W' sv m x gen use := by
  rcases h with h0 | ⟨g, cap, cur, rfl, e, r⟩
  · exact .inl h0
  · exact .inr ⟨g, cap, cur, rfl, (hk g rfl).trans e, r⟩
theorem SlotsAt.row {W : World} {sv : Value} {m : Nat} {x : Nat → Int} {gen : Nat → Nat} {use : Nat → Bool} (h : SlotsAt W sv m x gen use) (hm : 0 < m) :
    ∃ g cap, sv = .slice (some ⟨g, 0, none⟩) m cap ∧ m ≤ cap ∧ cap ≤ maxLen ∧ g < W.heap.size ∧ (∀ i, i < m → W.cell? ⟨g, i * 3, none⟩ = some (Value.int .u64 (x i)) ∧ W.cell? ⟨g, i * 3 + 1, none⟩ = some (.int .i64 (gen i)) ∧ W.cell? ⟨g, i * 3 + 2, none⟩ = some (.bool (use i))) ∧ (∀ j, W.frozen? ⟨g, j, none⟩ = false) := by
  rcases h with ⟨_, h0⟩ | ⟨g, cap, cur, rfl, e, h1, h2, h3, hc⟩
  · omega
  · refine ⟨g, cap, rfl, h1, h2, heap_lt e, fun i hi => ?_, fun j => by simp [World.frozen?, e]⟩
    obtain ⟨c0, c1, c2⟩ := hc i hi
    refine ⟨?_, ?_, ?_⟩ <;> rw [cell_of_row W g _ _ _ (0, 0) e] <;> assumption
/-- A slot is written anew. -/
theorem SlotsAt.put {W : World} {g n cap m i : Nat} {x : Nat → Int} {gen : Nat → Nat} {use : Nat → Bool} (h : SlotsAt W (.slice (some ⟨g, 0, none⟩) n cap) m x gen use) (hi : i < m) (v : Int) (ge : Nat) (u : Bool) :
    SlotsAt (((W.setCell ⟨g, i * 3, none⟩ (Value.int .u64 v)).setCell ⟨g, i * 3 + 1, none⟩ (.int .i64 ge)).setCell ⟨g, i * 3 + 2, none⟩ (.bool u)) (.slice (some ⟨g, 0, none⟩) n cap) m (upd x i v) (upd gen i ge) (upd use i u) := by
  rcases h with ⟨h0, _⟩ | ⟨g', cap', cur, hv, e, h1, h2, h3, hc⟩
  · cases h0
  · injection hv with e1 e2 e3
    injection e1 with e1
    injection e1 with e1
    subst e1 e3
    refine .inr ⟨g, cap, _, by rw [e2], heap_setCell_at _ _ _ _ _ _ _ (heap_setCell_at _ _ _ _ _ _ _ (heap_setCell_at _ _ _ _ _ _ _ e)), h1, h2, by simpa using h3, fun j hj => ?_⟩
    obtain ⟨c0, c1, c2⟩ := hc j hj
    have b0 : i * 3 < cur.size := by omega
    have b1 : i * 3 + 1 < (cur.setIfInBounds (i * 3) (Value.int .u64 v)).size := by rw [Array.size_setIfInBounds]; omega
    have b2 : i * 3 + 2 < ((cur.setIfInBounds (i * 3) (Value.int .u64 v)).setIfInBounds (i * 3 + 1) (.int .i64 ge)).size := by rw [Array.size_setIfInBounds, Array.size_setIfInBounds]; omega
    simp only [arr_set b2, arr_set b1, arr_set b0]
    unfold upd
    by_cases ej : j = i
    · subst ej
      refine ⟨?_, ?_, ?_⟩
      · rw [if_neg (by omega), if_neg (by omega), if_pos rfl, if_pos rfl]
      · rw [if_neg (by omega), if_pos rfl, if_pos rfl]
      · rw [if_pos rfl, if_pos rfl]
    · refine ⟨?_, ?_, ?_⟩
      · rw [if_neg (by omega), if_neg (by omega), if_neg (by omega), if_neg ej]; exact c0
      · rw [if_neg (by omega), if_neg (by omega), if_neg (by omega), if_neg ej]; exact c1
      · rw [if_neg (by omega), if_neg (by omega), if_neg (by omega), if_neg ej]; exact c2
theorem SlotsAt.put0 {W : World} {g n cap m i : Nat} {x : Nat → Int} {gen : Nat → Nat} {use : Nat → Bool} (h : SlotsAt W (.slice (some ⟨g, 0, none⟩) n cap) m x gen use) (hi : i < m) (v : Int) :
    SlotsAt (W.setCell ⟨g, i * 3, none⟩ (Value.int .u64 v)) (.slice (some ⟨g, 0, none⟩) n cap) m (upd x i v) gen use := by
  rcases h with ⟨h0, _⟩ | ⟨g', cap', cur, hv, e, h1, h2, h3, hc⟩
  · cases h0
  · injection hv with e1 e2 e3
    injection e1 with e1
    injection e1 with e1
    subst e1 e3
    refine .inr ⟨g, cap, _, by rw [e2], heap_setCell_at _ _ _ _ _ _ _ e, h1, h2, by simpa using h3, fun j hj => ?_⟩
    obtain ⟨c0, c1, c2⟩ := hc j hj
    have b0 : i * 3 < cur.size := by omega
    simp only [arr_set b0]
    unfold upd
    by_cases ej : j = i
    · subst ej
      refine ⟨?_, ?_, ?_⟩
      · rw [if_pos rfl, if_pos rfl]
      · rw [if_neg (by omega)]; exact c1
      · rw [if_neg (by omega)]; exact c2
    · refine ⟨?_, ?_, ?_⟩
      · rw [if_neg (by omega), if_neg ej]; exact c0
      · rw [if_neg (by omega)]; exact c1
      · rw [if_neg (by omega)]; exact c2

def slotCells (x : Nat → Int) (gen : Nat → Nat) (use : Nat → Bool) : Nat → List Value
  | 0 => []
  | i + 1 => slotCells x gen use i ++ [Value.int .u64 (x i), .int .i64 (gen i), .bool (use i)]
theorem slotCells_length (x : Nat → Int) (gen : Nat → Nat) (use : Nat → Bool) : ∀ m, (slotCells x gen use m).length = m * 3
  | 0 => rfl
  | m + 1 => by
    unfold slotCells
    rw [List.length_append, slotCells_length x gen use m]
    simp
    omega
theorem slotCells_get (x : Nat → Int) (gen : Nat → Nat) (use : Nat → Bool) : ∀ m i, i < m → (slotCells x gen use m)[i * 3]? = some (Value.int .u64 (x i)) ∧ (slotCells x gen use m)[i * 3 + 1]? = some (.int .i64 (gen i)) ∧ (slotCells x gen use m)[i * 3 + 2]? = some (.bool (use i))
  | 0, i, h => absurd h (Nat.not_lt_zero i)
  | m + 1, i, h => by
    have hl := slotCells_length x gen use m
    unfold slotCells
    by_cases e : i = m
    · subst e
      rw [List.getElem?_append_right (by omega), List.getElem?_append_right (by omega), List.getElem?_append_right (by omega), hl, show i * 3 - i * 3 = 0 by omega, show i * 3 + 1 - i * 3 = 1 by omega, show i * 3 + 2 - i * 3 = 2 by omega]
      exact ⟨rfl, rfl, rfl⟩
    · rw [List.getElem?_append_left (by omega), List.getElem?_append_left (by omega), List.getElem?_append_left (by omega)]
      exact slotCells_get x gen use m i (by omega)
theorem three_ext {l l' : List Value} {m : Nat} (h1 : l.length = m * 3) (h2 : l'.length = m * 3) (h : ∀ i, i < m → l[i * 3]? = l'[i * 3]? ∧ l[i * 3 + 1]? = l'[i * 3 + 1]? ∧ l[i * 3 + 2]? = l'[i * 3 + 2]?) : l = l' := by
  apply List.ext_getElem?
  intro j
  by_cases hj : j < m * 3
  · obtain ⟨a, b, c⟩ := h (j / 3) (by omega)
    rcases (show j = j / 3 * 3 ∨ j = j / 3 * 3 + 1 ∨ j = j / 3 * 3 + 2 by omega) with e | e | e <;> (rw [e]; assumption)
  · rw [List.getElem?_eq_none (by omega), List.getElem?_eq_none (by omega)]
theorem SlotsAt.own {W : World} {sv : Value} {m : Nat} {x : Nat → Int} {gen : Nat → Nat} {use : Nat → Bool} (h : SlotsAt W sv m x gen use) : W.ownsRow 0 71 3 sv m (slotCells x gen use m) := by
  refine ⟨slotCells_length _ _ _ _, ?_⟩
  rcases h with h0 | ⟨g, cap, cur, rfl, e, h1, h2, h3, hc⟩
  · exact .inl h0
  · refine .inr ⟨g, cap, cur, rfl, Nat.zero_le _, e, h1, h2, h3, ?_⟩
    refine three_ext (m := m) (by rw [List.length_take]; simp; omega) (slotCells_length _ _ _ _) (fun i hi => ?_)
    obtain ⟨c0, c1, c2⟩ := hc i hi
    obtain ⟨d0, d1, d2⟩ := slotCells_get x gen use m i hi
    rw [List.getElem?_take, List.getElem?_take, List.getElem?_take, if_pos (by omega), if_pos (by omega), if_pos (by omega), d0, d1, d2, ← c0, ← c1, ← c2]
    simp
theorem SlotsAt.of_own {W : World} {sv : Value} {m : Nat} {x : Nat → Int} {gen : Nat → Nat} {use : Nat → Bool} (h : W.ownsRow 0 71 3 sv m (slotCells x gen use m)) : SlotsAt W sv m x gen use := by
  obtain ⟨h1, h2⟩ := h
  rcases h2 with ⟨rfl, h0⟩ | ⟨g, cap, cur, rfl, hg, hh, hn, hc, hs, ht⟩
  · exact .inl ⟨rfl, h0⟩
  · refine .inr ⟨g, cap, cur, rfl, hh, hn, hc, hs, fun i hi => ?_⟩
    have key : ∀ j, j < m * 3 → cur[j]? = (slotCells x gen use m)[j]? := fun j hj => by
      rw [← ht, List.getElem?_take, if_pos hj]
      simp
    obtain ⟨d0, d1, d2⟩ := slotCells_get x gen use m i hi
    rw [key _ (by omega), key _ (by omega), key _ (by omega)]
    exact ⟨d0, d1, d2⟩
theorem slotCells_congr {x x' : Nat → Int} {gen gen' : Nat → Nat} {use use' : Nat → Bool} : ∀ m, (∀ i, i < m → x i = x' i ∧ gen i = gen' i ∧ use i = use' i) → slotCells x gen use m = slotCells x' gen' use' m
  | 0, _ => rfl
  | m + 1, h => by
    obtain ⟨a, b, c⟩ := h m (by omega)
    unfold slotCells
    rw [slotCells_congr m (fun i hi => h i (by omega)), a, b, c]
theorem slotCells_snoc (x : Nat → Int) (gen : Nat → Nat) (use : Nat → Bool) (m : Nat) (v : Int) (ge : Nat) (u : Bool) :
    slotCells (upd x m v) (upd gen m ge) (upd use m u) (m + 1) = slotCells x gen use m ++ [Value.int .u64 v, .int .i64 ge, .bool u] := by
  show slotCells (upd x m v) (upd gen m ge) (upd use m u) m ++ [Value.int .u64 (upd x m v m), .int .i64 (upd gen m ge m : Nat), .bool (upd use m u m)] = _
  rw [slotCells_congr (x' := x) (gen' := gen) (use' := use) m (fun i hi => ⟨upd_other (by omega), upd_other (by omega), upd_other (by omega)⟩), upd_same, upd_same, upd_same]

structure TabAt (W : World) (tb : Nat) (sv fv : Value) (s : Ts Int) : Prop where
  head : W.heap[tb]? = some (.cells #[.int .i64 s.n, sv, fv] 69 (0, 0))
  slots : SlotsAt W sv s.m s.x s.gen s.use
  free : LineAt W fv s.k s.fr
  ne1 : sv.ownBlock ≠ some tb
  ne2 : fv.ownBlock ≠ some tb
  ne3 : ∀ b, sv.ownBlock = some b → fv.ownBlock ≠ some b
/-- Its blocks. -/
def Foot (tb : Nat) (sv fv : Value) : Nat → Prop := fun k => k = tb ∨ sv.ownBlock = some k ∨ fv.ownBlock = some k

theorem TabAt.lt1 {W : World} {tb : Nat} {sv fv : Value} {s : Ts Int} (h : TabAt W tb sv fv s) : tb < W.heap.size := heap_lt h.head
theorem TabAt.foot {W : World} {tb : Nat} {sv fv : Value} {s : Ts Int} (h : TabAt W tb sv fv s) {k : Nat} (hk : Foot tb sv fv k) : k < W.heap.size := by
  rcases hk with rfl | hk | hk
  · exact h.lt1
  · exact h.slots.lt hk
  · exact h.free.lt hk
/-- What leaves its blocks leaves the table. -/
theorem TabAt.keep {W W' : World} {tb : Nat} {sv fv : Value} {s : Ts Int} (h : TabAt W tb sv fv s) (hk : ∀ k, Foot tb sv fv k → W'.heap[k]? = W.heap[k]?) : TabAt W' tb sv fv s where
  head := (hk tb (.inl rfl)).trans h.head
  slots := h.slots.keep fun k e => hk k (.inr (.inl e))
  free := h.free.keep fun k e => hk k (.inr (.inr e))
  ne1 := h.ne1
  ne2 := h.ne2
  ne3 := h.ne3
theorem TabAt.below {W W' : World} {tb : Nat} {sv fv : Value} {s : Ts Int} (h : TabAt W tb sv fv s) (hk : Below W.heap.size W W') : TabAt W' tb sv fv s := h.keep fun k hf => hk.block k (h.foot hf)
theorem TabAt.drewN {W : World} {tb : Nat} {sv fv : Value} {s : Ts Int} (h : TabAt W tb sv fv s) (n : Nat) : TabAt (W.drewN n) tb sv fv s := h.keep fun k hf => rfl
theorem TabAt.drew {W : World} {tb : Nat} {sv fv : Value} {s : Ts Int} (h : TabAt W tb sv fv s) : TabAt W.drew tb sv fv s := h.drewN 1

/-- What the walk wants of the head. -/
theorem TabAt.heads {W : World} {tb : Nat} {sv fv : Value} {s : Ts Int} (h : TabAt W tb sv fv s) :
    W.cell? ⟨tb, 0, none⟩ = some (.int .i64 s.n) ∧ W.cell? ⟨tb, 1, none⟩ = some sv ∧ W.cell? ⟨tb, 2, none⟩ = some fv ∧ W.frozen? ⟨tb, 1, none⟩ = false ∧ W.frozen? ⟨tb, 2, none⟩ = false := by
  have e := h.head
  refine ⟨?_, ?_, ?_, ?_, ?_⟩ <;> simp [World.cell?, World.frozen?, e]

/-- Behind a call that changes the table. -/
def MutPost (W : World) (tb : Nat) (sv fv : Value) (v : Value) (s' : Ts Int) (e : Ending) (wr : World) : Prop :=
  ∃ (sv' fv' : Value), e = .returned v ∧ TabAt wr tb sv' fv' s' ∧ Apart (Foot tb sv fv) W wr ∧ Grew W sv sv' ∧ Grew W fv fv'

/-- A slot of the table is written anew. -/
theorem TabAt.put {W : World} {tb g n cap i : Nat} {fv : Value} {s : Ts Int} (h : TabAt W tb (.slice (some ⟨g, 0, none⟩) n cap) fv s) (hi : i < s.m) (v : Int) (ge : Nat) (u : Bool) :
    TabAt (((W.setCell ⟨g, i * 3, none⟩ (Value.int .u64 v)).setCell ⟨g, i * 3 + 1, none⟩ (.int .i64 ge)).setCell ⟨g, i * 3 + 2, none⟩ (.bool u)) tb (.slice (some ⟨g, 0, none⟩) n cap) fv { s with x := upd s.x i v, gen := upd s.gen i ge, use := upd s.use i u } := by
  have far : ∀ k, k ≠ g → (((W.setCell ⟨g, i * 3, none⟩ (Value.int .u64 v)).setCell ⟨g, i * 3 + 1, none⟩ (.int .i64 ge)).setCell ⟨g, i * 3 + 2, none⟩ (.bool u)).heap[k]? = W.heap[k]? := fun k hk =>
    (Below.heap_setCell _ _ _ _ hk).trans ((Below.heap_setCell _ _ _ _ hk).trans (Below.heap_setCell _ _ _ _ hk))
  refine ⟨(far tb (fun e => h.ne1 (by rw [e]; rfl))).trans h.head, h.slots.put hi v ge u, h.free.keep fun k hk => far k (fun e => h.ne3 g rfl (by rw [← e]; exact hk)), h.ne1, h.ne2, h.ne3⟩
theorem TabAt.put0 {W : World} {tb g n cap i : Nat} {fv : Value} {s : Ts Int} (h : TabAt W tb (.slice (some ⟨g, 0, none⟩) n cap) fv s) (hi : i < s.m) (v : Int) :
    TabAt (W.setCell ⟨g, i * 3, none⟩ (Value.int .u64 v)) tb (.slice (some ⟨g, 0, none⟩) n cap) fv (setT s i v) := by
  have far : ∀ k, k ≠ g → (W.setCell ⟨g, i * 3, none⟩ (Value.int .u64 v)).heap[k]? = W.heap[k]? := fun k hk => Below.heap_setCell _ _ _ _ hk
  refine ⟨(far tb (fun e => h.ne1 (by rw [e]; rfl))).trans h.head, h.slots.put0 hi v, h.free.keep fun k hk => far k (fun e => h.ne3 g rfl (by rw [← e]; exact hk)), h.ne1, h.ne2, h.ne3⟩
/-- The row of those who became free is cut by one. -/
theorem TabAt.cut {W : World} {tb g n cap : Nat} {sv : Value} {s : Ts Int} (h : TabAt W tb sv (.slice (some ⟨g, 0, none⟩) n cap) s) :
    TabAt (W.setCell ⟨tb, 2, none⟩ (.slice (some ⟨g, 0, none⟩) (s.k - 1) cap)) tb sv (.slice (some ⟨g, 0, none⟩) (s.k - 1) cap) { s with k := s.k - 1 } := by
  have far : ∀ k, k ≠ tb → (W.setCell ⟨tb, 2, none⟩ (.slice (some ⟨g, 0, none⟩) (s.k - 1) cap)).heap[k]? = W.heap[k]? := fun k hk => Below.heap_setCell _ _ _ _ hk
  refine ⟨heap_setCell_at _ _ _ _ _ _ _ h.head, h.slots.keep fun k hk => far k (fun e => h.ne1 (by rw [← e]; exact hk)), (h.free.keep fun k hk => far k (fun e => h.ne2 (by rw [← e]; exact hk))).cut (by omega), h.ne1, h.ne2, h.ne3⟩
/-- The row of slots has grown by one. -/
theorem TabAt.more {W W' : World} {tb : Nat} {sv sv' fv : Value} {s : Ts Int} {v : Int} {ge : Nat} {u : Bool} {o : Obj} (h : TabAt W tb sv fv s) (hown : W'.ownsRow 0 71 3 sv' (s.m + 1) (slotCells s.x s.gen s.use s.m ++ [Value.int .u64 v, .int .i64 ge, .bool u]))
    (hg : (W.alloc o).grownBy W' sv.ownBlock) (hloc : sv'.ownBlock = sv.ownBlock ∨ sv'.ownBlock = some (W.alloc o).heap.size) :
    TabAt (W'.setCell ⟨tb, 1, none⟩ sv') tb sv' fv { s with m := s.m + 1, x := upd s.x s.m v, gen := upd s.gen s.m ge, use := upd s.use s.m u } ∧ Apart (Foot tb sv fv) W (W'.setCell ⟨tb, 1, none⟩ sv') ∧ Grew W sv sv' := by
  have hold : ∀ k, k < W.heap.size → sv.ownBlock ≠ some k → W'.heap[k]? = W.heap[k]? := fun k hk hne =>
    (hg.block k (by simp; omega) (fun e => hne e.symm)).trans (Below.heap_alloc W o k hk)
  have l1 := h.lt1
  have e1 : sv'.ownBlock ≠ some tb := by
    rcases hloc with e | e
    · rw [e]; exact h.ne1
    · rw [e, World.size_alloc]; intro e'; injection e' with e'; omega
  have e2 : ∀ b, sv'.ownBlock = some b → fv.ownBlock ≠ some b := by
    intro b hb
    rcases hloc with e | e
    · exact h.ne3 b (by rw [← e]; exact hb)
    · rw [e, World.size_alloc] at hb; injection hb with hb
      intro hf
      have := h.free.lt hf
      omega
  refine ⟨⟨heap_setCell_at _ _ _ _ _ _ _ ((hold tb l1 h.ne1).trans h.head), ?_, ?_, e1, h.ne2, e2⟩, ?_, fun k hk => ?_⟩
  · have ho : SlotsAt W' sv' (s.m + 1) (upd s.x s.m v) (upd s.gen s.m ge) (upd s.use s.m u) := SlotsAt.of_own (by rw [slotCells_snoc]; exact hown)
    exact ho.keep fun k hk => Below.heap_setCell _ _ _ _ (fun e => e1 (by have e' : k = tb := e; rw [← e']; exact hk))
  · exact h.free.keep fun k hk => (Below.heap_setCell _ _ _ _ (fun e => h.ne2 (by have e' : k = tb := e; rw [← e']; exact hk))).trans (hold k (h.free.lt hk) (fun hs => h.ne3 k hs hk))
  · refine Apart.set (F := Foot tb sv fv) (a := W) ⟨hg.os, hg.tape, hg.output, ?_, fun k hk hn => hold k hk (fun e => hn (Or.inr (Or.inl e)))⟩ (Or.inl (Or.inl rfl)) _
    have := hg.size
    simp at this
    omega
  · rcases hloc with e | e
    · exact .inl (by rw [← e]; exact hk)
    · right
      rw [e, World.size_alloc] at hk
      injection hk with hk
      omega
/-- The row of those who became free has grown by one. -/
theorem TabAt.freed {W W' : World} {tb : Nat} {sv fv fv' : Value} {s : Ts Int} {y : Nat} {o : Obj} (h : TabAt W tb sv fv s) (hown : W'.ownsRow 0 3 1 fv' (s.k + 1) (lineCells s.fr s.k ++ [.int .i64 y]))
    (hg : (W.alloc o).grownBy W' fv.ownBlock) (hloc : fv'.ownBlock = fv.ownBlock ∨ fv'.ownBlock = some (W.alloc o).heap.size) :
    TabAt (W'.setCell ⟨tb, 2, none⟩ fv') tb sv fv' { s with k := s.k + 1, fr := upd s.fr s.k y } ∧ Apart (Foot tb sv fv) W (W'.setCell ⟨tb, 2, none⟩ fv') ∧ Grew W fv fv' := by
  have hold : ∀ k, k < W.heap.size → fv.ownBlock ≠ some k → W'.heap[k]? = W.heap[k]? := fun k hk hne =>
    (hg.block k (by simp; omega) (fun e => hne e.symm)).trans (Below.heap_alloc W o k hk)
  have l1 := h.lt1
  have e1 : fv'.ownBlock ≠ some tb := by
    rcases hloc with e | e
    · rw [e]; exact h.ne2
    · rw [e, World.size_alloc]; intro e'; injection e' with e'; omega
  have e2 : ∀ b, sv.ownBlock = some b → fv'.ownBlock ≠ some b := by
    intro b hb hf
    rcases hloc with e | e
    · exact h.ne3 b hb (by rw [← e]; exact hf)
    · rw [e, World.size_alloc] at hf; injection hf with hf
      have := h.slots.lt hb
      omega
  refine ⟨⟨heap_setCell_at _ _ _ _ _ _ _ ((hold tb l1 h.ne2).trans h.head), ?_, ?_, h.ne1, e1, e2⟩, ?_, fun k hk => ?_⟩
  · exact h.slots.keep fun k hk => (Below.heap_setCell _ _ _ _ (fun e => h.ne1 (by have e' : k = tb := e; rw [← e']; exact hk))).trans (hold k (h.slots.lt hk) (fun hs => h.ne3 k hk hs))
  · exact (LineAt.of_own hown).keep fun k hk => Below.heap_setCell _ _ _ _ (fun e => e1 (by have e' : k = tb := e; rw [← e']; exact hk))
  · refine Apart.set (F := Foot tb sv fv) (a := W) ⟨hg.os, hg.tape, hg.output, ?_, fun k hk hn => hold k hk (fun e => hn (Or.inr (Or.inr e)))⟩ (Or.inl (Or.inl rfl)) _
    have := hg.size
    simp at this
    omega
  · rcases hloc with e | e
    · exact .inl (by rw [← e]; exact hk)
    · right
      rw [e, World.size_alloc] at hk
      injection hk with hk
      omega
end Go.Proofs.Ytlnheknhdabhdaa.TU
