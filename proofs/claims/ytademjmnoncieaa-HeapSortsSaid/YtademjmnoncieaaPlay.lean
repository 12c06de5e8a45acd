/-
  A heap of the call's own beside the document's list; calls, as an argument.
  Conditions: none.
-/
import Derived.Test.YtademjmnoncieaaNobody
set_option linter.unusedVariables false
namespace Go.Proofs.Ytademjmnoncieaa
open Go.RowKit

/-- A list of items apart from the heap. -/
def Side (w : World) (hb kb : Nat) (lv : Value) (v : Value) (its : List It) : Prop := ItemsAt w v its ∧ ∀ b, v.ownBlock = some b → b < w.heap.size ∧ ¬ Foot hb kb lv b
theorem Side.nil (w : World) (hb kb : Nat) (lv : Value) : Side w hb kb lv (.slice none 0 0) [] := ⟨ItemsAt.nil w, fun b hb => by simp [Value.ownBlock] at hb⟩
theorem Side.below {w w' : World} {hb kb : Nat} {lv v : Value} {its : List It} (h : Side w hb kb lv v its) (hb' : Below w.heap.size w w') : Side w' hb kb lv v its :=
  ⟨h.1.below hb', fun b e => ⟨Nat.lt_of_lt_of_le (h.2 b e).1 hb'.size, (h.2 b e).2⟩⟩
theorem Side.mut {w w' : World} {hb kb : Nat} {lv lv' v : Value} {its : List It} (h : Side w hb kb lv v its) (ha : Apart (Foot hb kb lv) w w') (hg : Grew w lv lv') : Side w' hb kb lv' v its :=
  ⟨h.1.keep ha.size fun b e hl => ha.block b hl (h.2 b e).2, fun b e => ⟨Nat.lt_of_lt_of_le (h.2 b e).1 ha.size, fun hf => by
    rcases hf with hf | hf | hf
    · exact (h.2 b e).2 (.inl hf)
    · exact (h.2 b e).2 (.inr (.inl hf))
    · rcases hg b hf with g | g
      · exact (h.2 b e).2 (.inr (.inr g))
      · have := (h.2 b e).1; omega⟩⟩
theorem Side.made {w w' : World} {hb kb : Nat} {lv v' : Value} {s : Hs} {its' : List It} (h : HeapAt w hb kb lv s) (ho : w'.ownsRow w.heap.size 34 3 v' its'.length (itemCells its')) (hb' : Below w.heap.size w w') (hl : its'.length ≤ 100000) : Side w' hb kb lv v' its' :=
  ⟨items_of_own ho hl, fun b e => ⟨by
    rcases ho.2 with ⟨rfl, _⟩ | ⟨g, cap, cur, rfl, _, hh, _⟩
    · cases e
    · injection e with e
      subst e
      exact heap_lt hh, fun hf => by have := own_base6 ho b e; have := h.foot hf; omega⟩⟩

/-- A call, as an argument has it: kind, id, num, den. -/
abbrev ActH := Int × Int × Nat × Nat
def ActAt (W : World) (b o : Nat) (a : ActH) : Prop := W.cell? ⟨b, o, none⟩ = some (.int .i64 a.1) ∧ W.cell? ⟨b, o + 1, none⟩ = some (.int .i64 a.2.1) ∧ W.cell? ⟨b, o + 2, none⟩ = some (.int .u64 a.2.2.1) ∧ W.cell? ⟨b, o + 3, none⟩ = some (.int .u64 a.2.2.2)
def ActsAt (W : World) (v : Value) (l : List ActH) : Prop :=
  ∃ A c, v = .slice A l.length c ∧ l.length ≤ 9223372036854775807 ∧ (0 < l.length → ∃ b off, A = some ⟨b, off, none⟩ ∧ b < W.heap.size ∧ ∀ (j : Nat) (a : ActH), l[j]? = some a → ActAt W b (off + j * 4) a)
def ActOk (a : ActH) : Prop := (-9223372036854775808 ≤ a.1 ∧ a.1 ≤ 9223372036854775807) ∧ (-9223372036854775808 ≤ a.2.1 ∧ a.2.1 ≤ 9223372036854775807) ∧ a.2.2.1 < 18446744073709551616 ∧ a.2.2.2 < 18446744073709551616
theorem ActAt.keep {W W' : World} {B b o : Nat} {a : ActH} (h : ActAt W b o a) (hb : Below B W W') (hlt : b < B) : ActAt W' b o a :=
  ⟨(hb.cell (p := ⟨b, o, none⟩) hlt).trans h.1, (hb.cell (p := ⟨b, o + 1, none⟩) hlt).trans h.2.1, (hb.cell (p := ⟨b, o + 2, none⟩) hlt).trans h.2.2.1, (hb.cell (p := ⟨b, o + 3, none⟩) hlt).trans h.2.2.2⟩
/-- A variable that holds a call. -/
def ActVar (W : World) (b : Nat) (a : ActH) : Prop := W.heap[b]? = some (.cells #[.int .i64 a.1, .int .i64 a.2.1, .int .u64 a.2.2.1, .int .u64 a.2.2.2] 31 (0, 0))
theorem ActVar.cells {W : World} {b : Nat} {a : ActH} (h : ActVar W b a) : W.cell? ⟨b, 0, none⟩ = some (.int .i64 a.1) ∧ W.cell? ⟨b, 1, none⟩ = some (.int .i64 a.2.1) ∧ W.cell? ⟨b, 2, none⟩ = some (.int .u64 a.2.2.1) ∧ W.cell? ⟨b, 3, none⟩ = some (.int .u64 a.2.2.2) := by
  unfold ActVar at h
  refine ⟨?_, ?_, ?_, ?_⟩ <;> simp [World.cell?, h]
theorem ActVar.keep {W W' : World} {b : Nat} {a : ActH} (h : ActVar W b a) (hb : Below W.heap.size W W') : ActVar W' b a := (hb.block b (heap_lt h)).trans h
theorem ActVar.apart {W W' : World} {b : Nat} {a : ActH} {F : Nat → Prop} (h : ActVar W b a) (hb : Apart F W W') (hn : ¬ F b) : ActVar W' b a := (hb.block b (heap_lt h) hn).trans h

theorem Agree.had {s : Hs} {its : List It} (a : Agree s its) (id : Int) : decide ((dropI its id).length < its.length) = hasKey s id := by
  by_cases hk : hasKey s id = true
  · obtain ⟨x, rfl, hx, hd⟩ := hasKey_some hk
    rw [hk]
    have := dropI_one a.nd (a.there.2 ⟨hx, hd⟩)
    exact decide_eq_true (by omega)
  · have c : RemC s id s := by unfold RemC; rw [if_neg hk]
    exact (a.rem c).2

def PlayRel (n B : Nat) (W0 : World) (hb kb : Nat) (l : List ActH) (N : Nat) (g : Nat) (s9 s10 : Value) (wr : World) : Prop :=
  ∃ (k : Nat) (lv : Value) (s : Hs) (its : List It), k ≤ N ∧ g = N - k ∧ s10 = .int .i64 k ∧ Held B W0 wr hb kb lv s ∧ s.n = n ∧ s.m ≤ k ∧ Agree s its ∧ Side wr hb kb lv s9 its
end Go.Proofs.Ytademjmnoncieaa
