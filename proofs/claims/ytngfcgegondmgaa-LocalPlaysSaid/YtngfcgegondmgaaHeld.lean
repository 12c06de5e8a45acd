/-
  The calls of a local that a call made itself; none of a nil one; literals.
  Conditions: its numbers are small.
-/
import Derived.Test.YtngfcgegondmgaaNew
import Derived.Test.YtngfcgegondmgaaCalls
set_option linter.unusedVariables false
namespace Go.Proofs.Ytngfcgegondmgaa
open Go.RowKit

theorem Held.lies {base : Nat} {W : World} {rb : Nat} {l : List Lm} (h : Held base W rb l) : base ≤ W.heap.size ∧ rb < W.heap.size := by
  obtain ⟨mv, h1, h2⟩ := h
  have := h2 rb (.inl rfl)
  have := h1.lt
  exact ⟨by omega, this⟩
/-- What a call that changes it answers. -/
def HeldPost (base : Nat) (v : Value) (rb : Nat) (l : List Lm) (W : World) (e : Ending) (w' : World) : Prop := e = .returned v ∧ Held base w' rb l ∧ Below base W w'
theorem Held.pick {G base : Nat} {W : World} {rb : Nat} {l : List Lm} {ov : Value} {xs : List Int} (h : Held base W rb l) (ho : OkL G l) (hG : G ≤ 1000000) (hx : IntsAt W ov xs) :
    Calls Try.prog 12 #[.pointer (some ⟨rb, 0, none⟩), ov] W (HeldPost base (pickV (nextT (offB xs) l)) rb (pickT (offB xs) l) W) := by
  have hb := h.lies.1
  obtain ⟨mv, h1, h2⟩ := h
  exact (pick_any W rb mv l ov xs h1 (ho.mono hG) hx).mono fun e w' hm => Held.mut (l := l) hb h2 hm
theorem Held.begin_ {base : Nat} {W : World} {rb : Nat} {l : List Lm} (h : Held base W rb l) (hl : l.length ≤ 1000) :
    Calls Try.prog 14 #[.pointer (some ⟨rb, 0, none⟩)] W (HeldPost base (.tuple #[]) rb (beginT l) W) := by
  have hb := h.lies.1
  obtain ⟨mv, h1, h2⟩ := h
  exact (begin_any W rb mv l h1 hl).mono fun e w' hm => Held.mut (l := l) hb h2 hm
theorem Held.drop_ {G base : Nat} {W : World} {rb : Nat} {l : List Lm} (u : Int) (h : Held base W rb l) (ho : OkL G l) :
    Calls Try.prog 17 #[.pointer (some ⟨rb, 0, none⟩), .int .i64 u] W (HeldPost base (.bool (findT u l).isSome) rb (dropT u l) W) := by
  have hb := h.lies.1
  have hl := ho.len
  obtain ⟨mv, h1, h2⟩ := h
  exact (drop_any W rb mv l u h1 ho.rise (by omega)).mono fun e w' hm => Held.mut (l := l) hb h2 hm
theorem Held.got {base : Nat} {W : World} {rb : Nat} {l : List Lm} (u : Int) (h : Held base W rb l) (hl : l.length ≤ 1000) :
    Calls Try.prog 22 #[.pointer (some ⟨rb, 0, none⟩), .int .i64 u] W (HeldPost base (gotV (gotN l u)) rb l W) := by
  have hb := h.lies.1
  obtain ⟨mv, h1, h2⟩ := id h
  exact (got_any W rb mv l u h1 hl).mono fun e w' hm => ⟨hm.1, h.below hm.2, hm.2.mono hb⟩
theorem Held.total {G base : Nat} {W : World} {rb : Nat} {l : List Lm} (h : Held base W rb l) (ho : OkL G l) :
    Calls Try.prog 21 #[.pointer (some ⟨rb, 0, none⟩)] W (HeldPost base (.int .i64 (sumS l : Nat)) rb l W) := by
  have hb := h.lies.1
  obtain ⟨mv, h1, h2⟩ := id h
  exact (total_loc W rb mv l h1 ho).mono fun e w' hm => ⟨hm.1, h.below hm.2, hm.2.mono hb⟩
theorem Held.wants {base : Nat} {W : World} {rb : Nat} {l : List Lm} (h : Held base W rb l) (hl : l.length ≤ 1000) :
    Calls Try.prog 20 #[.pointer (some ⟨rb, 0, none⟩)] W (fun e w' => ∃ v, e = .returned v ∧ SpansAt w' v (wantsT l) ∧ Held base w' rb l ∧ Below W.heap.size W w') := by
  obtain ⟨mv, h1, h2⟩ := id h
  exact (wants_any W rb mv l h1 hl).mono fun e w' hm => by
    obtain ⟨v, k1, k2, k3⟩ := hm
    exact ⟨v, k1, spans_of_own k2 (by unfold wantsT; rw [List.length_map]; omega), h.below k3, k3⟩

/-- Literals. -/
theorem lit_spans (W : World) (ps : List Sp) (t : Nat) (hl : ps.length ≤ 100000) : SpansAt (W.alloc (.cells (spansCells ps).toArray t)) (.slice (some ⟨W.heap.size, 0, none⟩) ps.length ps.length) ps := by
  refine spans_of_own (base := 0) (e := t) ?_ hl
  have := World.ownsRow_lit (base := 0) (e := t) (size := 2) W (spansCells ps).toArray ps.length (Nat.zero_le _) (by unfold maxLen; omega) (by simp [spansCells_length])
  simpa using this
def intC (xs : List Int) : Array Value := (xs.map fun x => Value.int .i64 x).toArray
theorem lit_ints (W : World) (xs : List Int) (t : Nat) (hl : xs.length ≤ 1000) : IntsAt (W.alloc (.cells (intC xs) t)) (.slice (some ⟨W.heap.size, 0, none⟩) xs.length xs.length) xs := by
  refine ⟨_, _, rfl, Nat.le_refl _, by omega, fun _ => ⟨W.heap.size, 0, rfl, by simp, fun j x hx => ?_⟩⟩
  rw [Nat.zero_add, cell_of_row _ W.heap.size j _ _ (0, 0) (heap_alloc_new W _)]
  simp [intC, hx]
end Go.Proofs.Ytngfcgegondmgaa
