/-
  A local beside other blocks: its calls leave these; a map of bools of the call's own; rows of ints.
  Conditions: those of each law.
-/
import Derived.Test.YtngfcgegondmgaaMade
import Derived.Maps.Own
import Derived.Maps.OwnOps
import Derived.Maps.OwnSet
import Derived.Maps.Views
set_option linter.unusedVariables false
namespace Go.Proofs.Ytngfcgegondmgaa
open Go.RowKit Go.Maps

/-- A local of a call's own, and blocks F that are none of its. -/
def HeldA (base : Nat) (F : Nat → Prop) (W : World) (rb : Nat) (l : List Lm) : Prop :=
  ∃ mv, LocAt W rb mv l ∧ (∀ k, Foot rb mv k → base ≤ k) ∧ ∀ k, F k → k < W.heap.size ∧ ¬ Foot rb mv k
def PostA (base : Nat) (F : Nat → Prop) (v : Value) (rb : Nat) (l : List Lm) (W : World) (e : Ending) (w' : World) : Prop :=
  e = .returned v ∧ HeldA base F w' rb l ∧ Below base W w' ∧ ∀ k, F k → w'.heap[k]? = W.heap[k]?
theorem HeldA.lies {base : Nat} {F : Nat → Prop} {W : World} {rb : Nat} {l : List Lm} (h : HeldA base F W rb l) : base ≤ W.heap.size ∧ rb < W.heap.size := by
  obtain ⟨mv, h1, h2, _⟩ := h
  have := h2 rb (.inl rfl)
  have := h1.lt
  exact ⟨by omega, this⟩
theorem HeldA.held {base : Nat} {F : Nat → Prop} {W : World} {rb : Nat} {l : List Lm} (h : HeldA base F W rb l) : Held base W rb l := by
  obtain ⟨mv, h1, h2, _⟩ := h
  exact ⟨mv, h1, h2⟩
theorem HeldA.below {base : Nat} {F : Nat → Prop} {W W' : World} {rb : Nat} {l : List Lm} (h : HeldA base F W rb l) (hb : Below W.heap.size W W') : HeldA base F W' rb l := by
  obtain ⟨mv, h1, h2, h3⟩ := h
  exact ⟨mv, h1.below hb, h2, fun k hk => ⟨Nat.lt_of_lt_of_le (h3 k hk).1 hb.size, (h3 k hk).2⟩⟩
theorem HeldA.same {base : Nat} {F : Nat → Prop} {W W' : World} {rb : Nat} {l : List Lm} (h : HeldA base F W rb l) (hb : Below W.heap.size W W') : ∀ k, F k → W'.heap[k]? = W.heap[k]? := by
  obtain ⟨mv, h1, h2, h3⟩ := h
  exact fun k hk => hb.block k (h3 k hk).1
/-- Other blocks beside it: those that are there and are none of its. -/
theorem HeldA.beside {base : Nat} {F F' : Nat → Prop} {W : World} {rb : Nat} {l : List Lm} (h : HeldA base F W rb l) (hF : ∀ k, F' k → F k) : HeldA base F' W rb l := by
  obtain ⟨mv, h1, h2, h3⟩ := h
  exact ⟨mv, h1, h2, fun k hk => h3 k (hF k hk)⟩
/-- A new world in which the local's blocks are as they were; blocks that came since are none of its. -/
theorem Held.with_ {base : Nat} {F : Nat → Prop} {W W' : World} {rb : Nat} {l : List Lm} (h : Held base W rb l) (hb : Below W.heap.size W W') (hF : ∀ k, F k → W.heap.size ≤ k ∧ k < W'.heap.size) : HeldA base F W' rb l := by
  obtain ⟨mv, h1, h2⟩ := h
  exact ⟨mv, h1.below hb, h2, fun k hk => ⟨(hF k hk).2, fun hf => by have := h1.foot hf; have := (hF k hk).1; omega⟩⟩
/-- A block of F is changed. -/
theorem HeldA.other {base : Nat} {F : Nat → Prop} {W W' : World} {rb b : Nat} {l : List Lm} (h : HeldA base F W rb l) (hb : F b) (hs : W.heap.size ≤ W'.heap.size) (hk : ∀ k, k < W.heap.size → k ≠ b → W'.heap[k]? = W.heap[k]?) : HeldA base F W' rb l := by
  obtain ⟨mv, h1, h2, h3⟩ := h
  exact ⟨mv, h1.keep fun k hf => hk k (h1.foot hf) (fun e => (h3 b hb).2 (e ▸ hf)), h2, fun k hf => ⟨Nat.lt_of_lt_of_le (h3 k hf).1 hs, (h3 k hf).2⟩⟩
theorem HeldA.mut {base : Nat} {F : Nat → Prop} {W w' : World} {rb : Nat} {l l' : List Lm} {mv v : Value} {e : Ending} (hb : base ≤ W.heap.size) (hl : ∀ k, Foot rb mv k → base ≤ k) (hF : ∀ k, F k → k < W.heap.size ∧ ¬ Foot rb mv k) (hat : LocAt W rb mv l) (h : MutPost W rb mv v l' e w') :
    PostA base F v rb l' W e w' := by
  obtain ⟨mv', he, hat', hap, hg⟩ := h
  refine ⟨he, ⟨mv', hat', fun k hk => ?_, fun k hk => ⟨Nat.lt_of_lt_of_le (hF k hk).1 hap.size, fun hf => ?_⟩⟩, hap.below hb fun k hk hf => absurd (hl k hf) (by omega), fun k hk => hap.block k (hF k hk).1 (hF k hk).2⟩
  · rcases hk with rfl | hk
    · exact hl k (.inl rfl)
    · rcases hg k hk with hk | hk
      · exact hl k (.inr hk)
      · omega
  · rcases hf with rfl | hf
    · exact (hF k hk).2 (.inl rfl)
    · rcases hg k hf with h1 | h1
      · exact (hF k hk).2 (.inr h1)
      · have := (hF k hk).1
        omega
theorem HeldA.pick {G base : Nat} {F : Nat → Prop} {W : World} {rb : Nat} {l : List Lm} {ov : Value} {xs : List Int} (h : HeldA base F W rb l) (ho : OkL G l) (hG : G ≤ 1000000) (hx : IntsAt W ov xs) :
    Calls Try.prog 12 #[.pointer (some ⟨rb, 0, none⟩), ov] W (PostA base F (pickV (nextT (offB xs) l)) rb (pickT (offB xs) l) W) := by
  have hb := h.lies.1
  obtain ⟨mv, h1, h2, h3⟩ := h
  exact (pick_any W rb mv l ov xs h1 (ho.mono hG) hx).mono fun e w' hm => HeldA.mut hb h2 h3 h1 hm
theorem HeldA.begin_ {base : Nat} {F : Nat → Prop} {W : World} {rb : Nat} {l : List Lm} (h : HeldA base F W rb l) (hl : l.length ≤ 1000) :
    Calls Try.prog 14 #[.pointer (some ⟨rb, 0, none⟩)] W (PostA base F (.tuple #[]) rb (beginT l) W) := by
  have hb := h.lies.1
  obtain ⟨mv, h1, h2, h3⟩ := h
  exact (begin_any W rb mv l h1 hl).mono fun e w' hm => HeldA.mut hb h2 h3 h1 hm
theorem HeldA.drop_ {G base : Nat} {F : Nat → Prop} {W : World} {rb : Nat} {l : List Lm} (u : Int) (h : HeldA base F W rb l) (ho : OkL G l) :
    Calls Try.prog 17 #[.pointer (some ⟨rb, 0, none⟩), .int .i64 u] W (PostA base F (.bool (findT u l).isSome) rb (dropT u l) W) := by
  have hb := h.lies.1
  have hl := ho.len
  obtain ⟨mv, h1, h2, h3⟩ := h
  exact (drop_any W rb mv l u h1 ho.rise (by omega)).mono fun e w' hm => HeldA.mut hb h2 h3 h1 hm
theorem HeldA.got {base : Nat} {F : Nat → Prop} {W : World} {rb : Nat} {l : List Lm} (u : Int) (h : HeldA base F W rb l) (hl : l.length ≤ 1000) :
    Calls Try.prog 22 #[.pointer (some ⟨rb, 0, none⟩), .int .i64 u] W (PostA base F (gotV (gotN l u)) rb l W) := by
  have hb := h.lies.1
  obtain ⟨mv, h1, h2, h3⟩ := id h
  exact (got_any W rb mv l u h1 hl).mono fun e w' hm => ⟨hm.1, h.below hm.2, hm.2.mono hb, h.same hm.2⟩
theorem HeldA.total {G base : Nat} {F : Nat → Prop} {W : World} {rb : Nat} {l : List Lm} (h : HeldA base F W rb l) (ho : OkL G l) :
    Calls Try.prog 21 #[.pointer (some ⟨rb, 0, none⟩)] W (PostA base F (.int .i64 (sumS l : Nat)) rb l W) := by
  have hb := h.lies.1
  obtain ⟨mv, h1, h2, h3⟩ := id h
  exact (total_loc W rb mv l h1 ho).mono fun e w' hm => ⟨hm.1, h.below hm.2, hm.2.mono hb, h.same hm.2⟩
theorem HeldA.wants {base : Nat} {F : Nat → Prop} {W : World} {rb : Nat} {l : List Lm} (h : HeldA base F W rb l) (hl : l.length ≤ 1000) :
    Calls Try.prog 20 #[.pointer (some ⟨rb, 0, none⟩)] W (fun e w' => ∃ v, e = .returned v ∧ SpansAt w' v (wantsT l) ∧ HeldA base F w' rb l ∧ Below W.heap.size W w') := by
  obtain ⟨mv, h1, h2, h3⟩ := id h
  exact (wants_any W rb mv l h1 hl).mono fun e w' hm => by
    obtain ⟨v, k1, k2, k3⟩ := hm
    exact ⟨v, k1, spans_of_own k2 (by unfold wantsT; rw [List.length_map]; omega), h.below k3, k3⟩

/-! ### A map of bools -/
theorem keyedInt : Keyed Try.prog 3 := int_keyed Try.underlying3
theorem zeroBool (w : World) : (zeroValue 4).run Try.prog w = .ok (.bool false) w := by kernel_rfl
theorem key_int (q : Int) (h0 : -9223372036854775808 ≤ q) (h1 : q ≤ 9223372036854775807) : keyOf Try.prog 3 (.int .i64 q) = some (.int .i64 q) := keyOf_int_mk Try.underlying3 (WalkArith.wf_i64 ⟨h0, h1⟩)
theorem lit_ne {a b : Int} (h : a ≠ b) : (Lit.int .i64 a) ≠ (Lit.int .i64 b) := by intro e; injection e with _ e; exact h e
theorem keyLit_int (q : Int) : WideAt.IsKeyLit (.int .i64 q) := by first | exact trivial | simp [WideAt.IsKeyLit] | exact ⟨_, _, rfl⟩
theorem own_keepM {w w' : World} {R : Value → Option (DataW Unit × List MemPlace)} {b n : Nat} {D : DataW Unit} (h : w.ownsMap Try.prog 3 R b n D) (e : w'.heap[b]? = w.heap[b]?) : w'.ownsMap Try.prog 3 R b n D := by
  obtain ⟨es, clock, hb, r⟩ := h
  exact ⟨es, clock, e.trans hb, r⟩
theorem bool_inv {P : Program} {e : TypeId} (he : P.underlying e = some .bool) {v : Value} {x : Bool} {ps : List MemPlace} (h : plainElem (H := Unit) P e v = some (.lit (.bool x), ps)) : v = .bool x := by
  unfold plainElem at h
  rw [he] at h
  cases v <;> simp at h
  rw [h.1]
/-- Block mb is a map of at most cnt entries that has just the marked ones. -/
def OffAt (w : World) (mb cnt : Nat) (ever : Int → Bool) (D : DataW Unit) : Prop :=
  w.ownsMap Try.prog 3 (plainElem Try.prog 4) mb cnt D ∧ ∀ q : Int, D.atKey (.int .i64 q) (.lit (.bool false)) = .lit (.bool (ever q))
theorem OffAt.keep {w w' : World} {mb cnt : Nat} {ever : Int → Bool} {D : DataW Unit} (h : OffAt w mb cnt ever D) (e : w'.heap[mb]? = w.heap[mb]?) : OffAt w' mb cnt ever D := ⟨own_keepM h.1 e, h.2⟩
theorem off_new (w : World) : OffAt (w.alloc (.map #[] 0)) w.heap.size 0 (fun _ => false) (.map []) := ⟨World.ownsMap_made w _ _ _, fun q => rfl⟩
theorem OffAt.look {w : World} {mb cnt : Nat} {ever : Int → Bool} {D : DataW Unit} (h : OffAt w mb cnt ever D) (q : Int) (h0 : -9223372036854775808 ≤ q) (h1 : q ≤ 9223372036854775807) : (Instr.lookup 55 (.map (some mb)) (.int .i64 q) false).run Try.prog w = .ok (.bool (ever q)) w := by
  obtain ⟨v, ps, hrun, hv⟩ := h.1.lookup keyedInt Try.underlying55 (zeroBool w) (plainElem_bool Try.underlying4 false) (key_int q h0 h1)
  rw [h.2 q] at hv
  rw [hrun, bool_inv Try.underlying4 hv]
def mark (ever : Int → Bool) (q : Int) : Int → Bool := fun x => if x = q then true else ever x
theorem mark_old {ever : Int → Bool} {q x : Int} (h : ever x = true) : mark ever q x = true := by
  unfold mark
  split
  · rfl
  · exact h
theorem mark_new (ever : Int → Bool) (q : Int) : mark ever q q = true := by unfold mark; rw [if_pos rfl]
theorem OffAt.mark {w w' : World} {mb cnt : Nat} {ever : Int → Bool} {D : DataW Unit} {q : Int} (h : OffAt w mb cnt ever D) (ho : w'.ownsMap Try.prog 3 (plainElem Try.prog 4) mb (cnt + 1) (D.put (.int .i64 q) (.lit (.bool true)))) :
    OffAt w' mb (cnt + 1) (Go.Proofs.Ytngfcgegondmgaa.mark ever q) (D.put (.int .i64 q) (.lit (.bool true))) := by
  refine ⟨ho, fun x => ?_⟩
  unfold Go.Proofs.Ytngfcgegondmgaa.mark
  by_cases e : x = q
  · subst e
    rw [if_pos rfl, atKey_put_same h.1.isMap (keyLit_int _)]
  · rw [if_neg e, atKey_put_other (lit_ne e)]
    exact h.2 x

/-! ### Rows of ints -/
def IntOk (x : Int) : Prop := -9223372036854775808 ≤ x ∧ x ≤ 9223372036854775807
/-- The value reads as slices that read as ints. -/
def RowsAt (W : World) (v : Value) (ls : List (Value × List Int)) : Prop :=
  ∃ A c, v = .slice A ls.length c ∧ ls.length ≤ c ∧ c ≤ 9223372036854775807 ∧
    (0 < ls.length → ∃ b off, A = some ⟨b, off, none⟩ ∧ b < W.heap.size ∧ ∀ (j : Nat) (p : Value × List Int), ls[j]? = some p → W.cell? ⟨b, off + j, none⟩ = some p.1) ∧ ∀ p ∈ ls, IntsAt W p.1 p.2 ∧ ∀ x ∈ p.2, IntOk x
theorem RowsAt.nil (W : World) : RowsAt W (.slice none 0 0) [] := ⟨none, 0, rfl, Nat.le_refl _, by decide, fun h => absurd h (by decide), fun p hp => by cases hp⟩
theorem has_mem {xs : List Int} {u : Int} (h : hasI xs u = true) : ∃ k : Nat, xs[k]? = some u := by
  unfold hasI at h
  rw [List.contains_iff_mem] at h
  obtain ⟨j, hj, e⟩ := List.getElem_of_mem h
  exact ⟨j, by rw [List.getElem?_eq_getElem hj, e]⟩
end Go.Proofs.Ytngfcgegondmgaa
