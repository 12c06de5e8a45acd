/-
  What a call of a local leaves: blocks of other kinds; what a unit got, by a walk over the list.
  Conditions: the local lies in memory; its numbers are small.
-/
import Derived.Test.YtngfcgegondmgaaRefNew
import Derived.Test.YtngfcgegondmgaaRow15
set_option linter.unusedVariables false
namespace Go.Proofs.Ytngfcgegondmgaa
open Go.RowKit

/-- Blocks of other kinds than a local's are as they were. -/
def Keeps (W w' : World) : Prop := ∀ (k : Nat) (cs : Array Value) (T : Nat), W.heap[k]? = some (.cells cs T (0, 0)) → T ≠ 62 → T ≠ 67 → w'.heap[k]? = W.heap[k]?
theorem Keeps.below {W w' : World} (h : Below W.heap.size W w') : Keeps W w' := fun k cs T hk _ _ => h.block k (heap_lt hk)
theorem LocAt.notFoot {W : World} {rb : Nat} {mv : Value} {l : List Lm} (h : LocAt W rb mv l) {k : Nat} {cs : Array Value} {T : Nat} (hk : W.heap[k]? = some (.cells cs T (0, 0))) (h1 : T ≠ 62) (h2 : T ≠ 67) : ¬ Foot rb mv k := by
  rintro (rfl | hf)
  · have := h.head
    rw [hk] at this
    injection this with this
    injection this with _ this _
    exact h1 this
  · exact own_ne h.row hk (Ne.symm h2) hf
theorem mut_keeps {W w' : World} {rb : Nat} {mv v : Value} {l l' : List Lm} {e : Ending} (h : LocAt W rb mv l) (hm : MutPost W rb mv v l' e w') : Keeps W w' := fun k cs T hk h1 h2 => by
  obtain ⟨_, _, _, hap, _⟩ := hm
  exact hap.block k (heap_lt hk) (h.notFoot hk h1 h2)
def PostK (base : Nat) (v : Value) (rb : Nat) (l : List Lm) (W : World) (e : Ending) (w' : World) : Prop := e = .returned v ∧ Held base w' rb l ∧ Below base W w' ∧ Keeps W w'
theorem Held.pickK {G base : Nat} {W : World} {rb : Nat} {l : List Lm} {ov : Value} {xs : List Int} (h : Held base W rb l) (ho : OkL G l) (hG : G ≤ 1000000) (hx : IntsAt W ov xs) :
    Calls Try.prog 12 #[.pointer (some ⟨rb, 0, none⟩), ov] W (PostK base (pickV (nextT (offB xs) l)) rb (pickT (offB xs) l) W) := by
  have hb := h.lies.1
  obtain ⟨mv, h1, h2⟩ := h
  exact (pick_any W rb mv l ov xs h1 (ho.mono hG) hx).mono fun e w' hm => by
    obtain ⟨k1, k2, k3⟩ := Held.mut (l := l) hb h2 hm
    exact ⟨k1, k2, k3, mut_keeps h1 hm⟩
theorem Held.beginK {base : Nat} {W : World} {rb : Nat} {l : List Lm} (h : Held base W rb l) (hl : l.length ≤ 1000) :
    Calls Try.prog 14 #[.pointer (some ⟨rb, 0, none⟩)] W (PostK base (.tuple #[]) rb (beginT l) W) := by
  have hb := h.lies.1
  obtain ⟨mv, h1, h2⟩ := h
  exact (begin_any W rb mv l h1 hl).mono fun e w' hm => by
    obtain ⟨k1, k2, k3⟩ := Held.mut (l := l) hb h2 hm
    exact ⟨k1, k2, k3, mut_keeps h1 hm⟩
theorem Held.dropK {G base : Nat} {W : World} {rb : Nat} {l : List Lm} (u : Int) (h : Held base W rb l) (ho : OkL G l) :
    Calls Try.prog 17 #[.pointer (some ⟨rb, 0, none⟩), .int .i64 u] W (PostK base (.bool (findT u l).isSome) rb (dropT u l) W) := by
  have hb := h.lies.1
  have hl := ho.len
  obtain ⟨mv, h1, h2⟩ := h
  exact (drop_any W rb mv l u h1 ho.rise (by omega)).mono fun e w' hm => by
    obtain ⟨k1, k2, k3⟩ := Held.mut (l := l) hb h2 hm
    exact ⟨k1, k2, k3, mut_keeps h1 hm⟩
/-- A row stays where blocks of its kind do. -/
theorem own_keeps {W w' : World} {base e size n : Nat} {v : Value} {xs : List Value} (h : W.ownsRow base e size v n xs) (hk : Keeps W w') (h1 : e ≠ 62) (h2 : e ≠ 67) : w'.ownsRow base e size v n xs := by
  refine own_keep h fun k hb => ?_
  rcases h.2 with ⟨h3, _⟩ | ⟨g, cap, cur, h3, _, hh, _⟩
  · subst h3; cases hb
  · subst h3
    cases hb
    exact hk _ _ _ hh h1 h2
theorem RefOwn.keeps {W w' : World} {vL vG : Value} {l : List Lm} (h : RefOwn W vL vG l) (hk : Keeps W w') : RefOwn w' vL vG l :=
  ⟨own_keeps h.ws hk (by decide) (by decide), own_keeps h.gs hk (by decide) (by decide)⟩
theorem RefOwn.spans {W : World} {vL vG : Value} {l : List Lm} (h : RefOwn W vL vG l) (hl : l.length ≤ 1000) : SpansAt W vL (wantsT l) := by
  have h' : W.ownsRow 0 50 2 vL (wantsT l).length (spansCells (wantsT l)) := by rw [wantsT_length]; exact h.ws
  exact spans_of_own h' (by rw [wantsT_length]; omega)

/-! ### What a unit got, by a walk -/
def lastG (u : Int) (a : Option Nat) (l : List Lm) : Option Nat := l.foldl (fun a m => if (m.u : Int) = u then some m.g else a) a
theorem last_spec (u : Int) : ∀ (l : List Lm) (a : Option Nat), (lastG u a l = a ∧ ∀ m ∈ l, (m.u : Int) ≠ u) ∨ ∃ m ∈ l, (m.u : Int) = u ∧ lastG u a l = some m.g
  | [], a => .inl ⟨rfl, fun m hm => by cases hm⟩
  | x :: l, a => by
    by_cases e : (x.u : Int) = u
    · have e1 : lastG u a (x :: l) = lastG u (some x.g) l := by unfold lastG; rw [List.foldl_cons, if_pos e]
      rcases last_spec u l (some x.g) with ⟨h1, _⟩ | ⟨m, h1, h2, h3⟩
      · exact .inr ⟨x, List.mem_cons_self, e, by rw [e1, h1]⟩
      · exact .inr ⟨m, List.mem_cons_of_mem _ h1, h2, by rw [e1, h3]⟩
    · have e1 : lastG u a (x :: l) = lastG u a l := by unfold lastG; rw [List.foldl_cons, if_neg e]
      rcases last_spec u l a with ⟨h1, h2⟩ | ⟨m, h1, h2, h3⟩
      · refine .inl ⟨by rw [e1, h1], fun m hm => ?_⟩
        rcases List.mem_cons.1 hm with rfl | hm
        · exact e
        · exact h2 m hm
      · exact .inr ⟨m, List.mem_cons_of_mem _ h1, h2, by rw [e1, h3]⟩
theorem last_got {G : Nat} {l : List Lm} (h : OkL G l) (u : Int) : lastG u none l = gotN l u := by
  rcases last_spec u l none with ⟨h1, h2⟩ | ⟨m, h1, h2, h3⟩
  · rw [h1]
    unfold gotN
    cases hf : findT u l with
    | none => rfl
    | some k =>
      obtain ⟨m, hm, hu⟩ := find_some hf
      exact absurd hu (h2 m (List.mem_of_getElem? hm))
  · rw [h3, ← h2, gotN_mem h h1]
theorem last_yes {u : Int} {l : List Lm} {k : Nat} {m : Lm} (hm : l[k]? = some m) (h : (m.u : Int) = u) : lastG u none (l.take (k + 1)) = some m.g := by
  rw [take_succ_of hm]
  unfold lastG
  rw [List.foldl_append, List.foldl_cons, List.foldl_nil, if_pos h]
theorem last_no {u : Int} {l : List Lm} {k : Nat} {m : Lm} (hm : l[k]? = some m) (h : (m.u : Int) ≠ u) : lastG u none (l.take (k + 1)) = lastG u none (l.take k) := by
  rw [take_succ_of hm]
  unfold lastG
  rw [List.foldl_append, List.foldl_cons, List.foldl_nil, if_neg h]
/-- A unit is told just where there is one. -/
theorem unit_pos {G : Nat} {l : List Lm} (h : OkL G l) (off : Nat → Bool) : decide (0 < unitO (nextT off l)) = (nextT off l).isSome ∧ unitO (nextT off l) ≤ 1040 := by
  cases hn : nextT off l with
  | none => exact ⟨rfl, Nat.zero_le _⟩
  | some b =>
    have := h.unit b.2 (List.mem_of_getElem? (next_some h.share hn).at_)
    exact ⟨decide_eq_true this.1, this.2⟩
end Go.Proofs.Ytngfcgegondmgaa
