/-
  A command in memory; a variable in a box; an error by its links' keys, whose blocks lie high enough.
  Conditions: none.
-/
import Derived.Test.YtnddojngbolbfaaDoorCmdMath
import Derived.Test.YtnddojngbolbfaaDoorMake
import Derived.RangeFuncBox
import Derived.Laws.StructEq
import Derived.Shelf.RegionOpenPlain
set_option linter.unusedVariables false
namespace Go.Proofs.YtnddojngbolbfaaDoor
open Go.RowKit Go.Extern.Stop Go.Stop Go.Extern

/-- A command's eight values. -/
def cmdA (c : Cmd8) : Array Value := #[.int .i64 (c 0), .int .i64 (c 1), .int .i64 (c 2), .int .i64 (c 3), .int .i64 (c 4), .int .i64 (c 5), .int .i64 (c 6), .int .i64 (c 7)]
def CmdAt (W : World) (b : Nat) (c : Cmd8) : Prop := W.heap[b]? = some (.cells (cmdA c) 23 (0, 0))
theorem CmdAt.lt {W : World} {b : Nat} {c : Cmd8} (h : CmdAt W b c) : b < W.heap.size := heap_lt h
theorem cmdA_get (c : Cmd8) {j : Nat} (h : j < 8) : (cmdA c)[j]? = some (.int .i64 (c j)) := by
  match j, h with
  | 0, _ => rfl
  | 1, _ => rfl
  | 2, _ => rfl
  | 3, _ => rfl
  | 4, _ => rfl
  | 5, _ => rfl
  | 6, _ => rfl
  | 7, _ => rfl
theorem cmdA_set (c : Cmd8) {j : Nat} (h : j < 8) (n : Int) : (cmdA c).setIfInBounds j (.int .i64 n) = cmdA (updC c j n) := by
  match j, h with
  | 0, _ => rfl
  | 1, _ => rfl
  | 2, _ => rfl
  | 3, _ => rfl
  | 4, _ => rfl
  | 5, _ => rfl
  | 6, _ => rfl
  | 7, _ => rfl
theorem CmdAt.cell {W : World} {b : Nat} {c : Cmd8} (h : CmdAt W b c) {j : Nat} (hj : j < 8) : W.cell? ⟨b, j, none⟩ = some (.int .i64 (c j)) := by
  have h' : W.heap[b]? = _ := h
  simp [World.cell?, h', cmdA_get c hj]
theorem CmdAt.frozen {W : World} {b : Nat} {c : Cmd8} (h : CmdAt W b c) (j : Nat) : W.frozen? ⟨b, j, none⟩ = false := by
  have h' : W.heap[b]? = _ := h
  simp [World.frozen?, h']
theorem CmdAt.set {W : World} {b : Nat} {c : Cmd8} (h : CmdAt W b c) {j : Nat} (hj : j < 8) (n : Int) : CmdAt (W.setCell ⟨b, j, none⟩ (.int .i64 n)) b (updC c j n) := by
  have h' : W.heap[b]? = _ := h
  unfold CmdAt
  rw [← cmdA_set c hj n]
  simp [World.setCell, Array.getElem?_modify, h']
theorem CmdAt.keep {W W' : World} {b : Nat} {c : Cmd8} (h : CmdAt W b c) (hb : Below W.heap.size W W') : CmdAt W' b c := (hb.block b h.lt).trans h
theorem CmdAt.apart {F : Nat → Prop} {W W' : World} {b : Nat} {c : Cmd8} (h : CmdAt W b c) (ha : Apart F W W') (hF : ¬ F b) : CmdAt W' b c := (ha.block b h.lt hF).trans h
/-- The eight cells. -/
theorem CmdAt.eight {W : World} {b : Nat} {c : Cmd8} (h : CmdAt W b c) :
    W.cell? ⟨b, 0, none⟩ = some (.int .i64 (c 0)) ∧ W.cell? ⟨b, 1, none⟩ = some (.int .i64 (c 1)) ∧ W.cell? ⟨b, 2, none⟩ = some (.int .i64 (c 2)) ∧ W.cell? ⟨b, 3, none⟩ = some (.int .i64 (c 3)) ∧
    W.cell? ⟨b, 4, none⟩ = some (.int .i64 (c 4)) ∧ W.cell? ⟨b, 5, none⟩ = some (.int .i64 (c 5)) ∧ W.cell? ⟨b, 6, none⟩ = some (.int .i64 (c 6)) ∧ W.cell? ⟨b, 7, none⟩ = some (.int .i64 (c 7)) :=
  ⟨h.cell (by decide), h.cell (by decide), h.cell (by decide), h.cell (by decide), h.cell (by decide), h.cell (by decide), h.cell (by decide), h.cell (by decide)⟩

theorem box_keep {W W' : World} {b : Nat} {t : TypeId} {v : Value} (h : Boxed W b t v) (hb : Below W.heap.size W W') : Boxed W' b t v := (hb.block b h.lt).trans h
theorem box_apart {F : Nat → Prop} {W W' : World} {b : Nat} {t : TypeId} {v : Value} (h : Boxed W b t v) (ha : Apart F W W') (hF : ¬ F b) : Boxed W' b t v := (ha.block b h.lt hF).trans h
theorem box_else {W : World} {b b' o : Nat} {t : TypeId} {v : Value} (h : Boxed W b t v) (hne : b ≠ b') (u : Value) : Boxed (W.setCell ⟨b', o, none⟩ u) b t v :=
  (Below.heap_setCell _ _ _ _ hne).trans h
theorem CmdAt.elsewhere {W : World} {b b' o : Nat} {c : Cmd8} (h : CmdAt W b c) (hne : b ≠ b') (u : Value) : CmdAt (W.setCell ⟨b', o, none⟩ u) b c :=
  (Below.heap_setCell _ _ _ _ hne).trans h

/-- An error whose links have these keys, outermost first; its blocks lie at lo or above. -/
def ErrAt (lo : Nat) (W : World) (v : Value) (ks : List LKey) : Prop :=
  ∃ is : List Item, Chain W.heap.size W v is ∧ (∀ i ∈ is, lo ≤ i.b) ∧ is.map (fun i => (i.code, i.part, i.pos)) = ks

theorem ErrAt.nil (lo : Nat) (W : World) : ErrAt lo W .nilIface [] := ⟨[], .nil, (fun i h => by cases h), rfl⟩
theorem Chain.apart {F : Nat → Prop} {B : Nat} {w w' : World} {v : Value} {is : List Item} (c : Chain B w v is) (h : Apart F w w') (hB : B ≤ w.heap.size) (hF : ∀ i ∈ is, ¬ F i.b) : Chain B w' v is := by
  induction c with
  | nil => exact .nil
  | fault i hb hc _ ih =>
    exact .fault i hb ((h.block _ (by omega) (hF i (by simp))).trans hc) (ih fun j hj => hF j (by simp [hj]))
theorem ErrAt.apart {F : Nat → Prop} {lo : Nat} {W W' : World} {v : Value} {ks : List LKey} (h : ErrAt lo W v ks) (ha : Apart F W W') (hF : ∀ k, F k → k < lo) : ErrAt lo W' v ks := by
  obtain ⟨is, h1, h2, h3⟩ := h
  exact ⟨is, (h1.apart ha (Nat.le_refl _) fun i hi hf => by have := hF _ hf; have := h2 i hi; omega).up ha.size, h2, h3⟩
theorem ErrAt.keep {lo : Nat} {W W' : World} {v : Value} {ks : List LKey} (h : ErrAt lo W v ks) (hb : Below W.heap.size W W') : ErrAt lo W' v ks := by
  obtain ⟨is, h1, h2, h3⟩ := h
  exact ⟨is, (h1.kept (Nat.le_refl _) hb).up hb.size, h2, h3⟩
theorem ErrAt.weaken {lo lo' : Nat} {W : World} {v : Value} {ks : List LKey} (h : ErrAt lo W v ks) (hl : lo' ≤ lo) : ErrAt lo' W v ks := by
  obtain ⟨is, h1, h2, h3⟩ := h
  exact ⟨is, h1, fun i hi => by have := h2 i hi; omega, h3⟩
theorem ErrAt.elsewhere {lo : Nat} {W : World} {v : Value} {ks : List LKey} (h : ErrAt lo W v ks) {b o : Nat} (hb : b < lo) (u : Value) : ErrAt lo (W.setCell ⟨b, o, none⟩ u) v ks := by
  have ha : Apart (fun k => k = b) W (W.setCell ⟨b, o, none⟩ u) := (Apart.refl (fun k => k = b) W).set (p := ⟨b, o, none⟩) (.inl rfl) u
  exact h.apart ha (fun k e => by omega)
/-- It is nil, or a pointer to a Fault. -/
theorem ErrAt.cases {lo : Nat} {W : World} {v : Value} {ks : List LKey} (h : ErrAt lo W v ks) : (v = .nilIface ∧ ks = []) ∨ ∃ b, v = .iface 80 (.pointer (some ⟨b, 0, none⟩)) ∧ ks ≠ [] := by
  obtain ⟨is, h1, h2, h3⟩ := h
  cases h1 with
  | nil => exact .inl ⟨rfl, h3.symm⟩
  | fault i hb hc c => exact .inr ⟨_, rfl, by rw [← h3]; simp⟩

/-- What a call answers that makes an error or none, and leaves all that was. -/
def RetE (ks : List LKey) (w : World) (e : Ending) (w' : World) : Prop := ∃ v, e = .returned v ∧ ErrAt w.heap.size w' v ks ∧ Below w.heap.size w w'

/-- fault.New. -/
theorem new_any (c : Int) (part : ByteArray) (pos : Int) (w : World) :
    Calls Tryd.prog 20 #[.int .i64 c, .string part, .int .i64 pos] w (RetE (if c = 0 then [] else [(c, part, pos)]) w) := by
  by_cases h : c = 0
  · subst h
    rw [if_pos rfl]
    exact (new_zero part pos w).mono fun e w' ⟨h1, h2⟩ => ⟨_, h1, ErrAt.nil _ _, h2 ▸ Below.refl _ _⟩
  · rw [if_neg h]
    refine (new_some c part pos w (by simpa using h)).mono ?_
    rintro e w' ⟨b, hlb, rfl, hb, hch⟩
    exact ⟨_, rfl, ⟨_, hch, fun i hi => by obtain rfl := List.mem_singleton.1 hi; exact hlb, rfl⟩, hb⟩

theorem codeOf_key {lo : Nat} {W : World} {b : Nat} {is : List Item} {k : LKey} {ks : List LKey} (h3 : is.map (fun i => (i.code, i.part, i.pos)) = k :: ks) (T : TypeId) (x : Value) : codeOf (.iface T x) is = k.1 := by
  cases is with
  | nil => cases h3
  | cons i is =>
    rw [codeOf_some (by simp)]
    injection h3 with h4 h5
    rw [← h4]

/-- fault.Wrap of an error with links. -/
theorem wrapE_any (b : Nat) (k : LKey) (ks : List LKey) (part : ByteArray) (pos : Int) (lo : Nat) (w : World) (hg : EType w) (hlo : lo ≤ w.heap.size) (h : ErrAt lo w (.iface 80 (.pointer (some ⟨b, 0, none⟩))) (k :: ks)) :
    Calls Tryd.prog 23 #[.iface 80 (.pointer (some ⟨b, 0, none⟩)), .string part, .int .i64 pos] w (fun e w' => ∃ v, e = .returned v ∧ ErrAt lo w' v ((k.1, part, pos) :: k :: ks) ∧ Below w.heap.size w w' ∧ ∃ b', v = .iface 80 (.pointer (some ⟨b', 0, none⟩))) := by
  obtain ⟨is, h1, h2, h3⟩ := h
  refine (wrap_some _ is part pos w h1 (by simp) hg).mono ?_
  rintro e w' ⟨b', hlb, rfl, hb, hch⟩
  refine ⟨_, rfl, ⟨_, hch, fun i hi => ?_, ?_⟩, hb, _, rfl⟩
  · rcases List.mem_cons.1 hi with rfl | hi
    · exact Nat.le_trans hlo hlb
    · exact h2 i hi
  · rw [List.map_cons, h3, codeOf_key (lo := lo) (W := w) (b := b) h3]
/-- fault.Turn of an error with links, to a code that is one. -/
theorem turnE_any (b : Nat) (c : Int) (ks : List LKey) (part : ByteArray) (pos : Int) (lo : Nat) (w : World) (hlo : lo ≤ w.heap.size) (hc : (c == 0) = false) (h : ErrAt lo w (.iface 80 (.pointer (some ⟨b, 0, none⟩))) ks) :
    Calls Tryd.prog 38 #[.iface 80 (.pointer (some ⟨b, 0, none⟩)), .int .i64 c, .string part, .int .i64 pos] w (fun e w' => ∃ v, e = .returned v ∧ ErrAt lo w' v ((c, part, pos) :: ks) ∧ Below w.heap.size w w' ∧ ∃ b', v = .iface 80 (.pointer (some ⟨b', 0, none⟩))) := by
  obtain ⟨is, h1, h2, h3⟩ := h
  refine (turn_some c _ is part pos w h1 (by simp) hc).mono ?_
  rintro e w' ⟨b', hlb, rfl, hb, hch⟩
  refine ⟨_, rfl, ⟨_, hch, fun i hi => ?_, ?_⟩, hb, _, rfl⟩
  · rcases List.mem_cons.1 hi with rfl | hi
    · exact Nat.le_trans hlo hlb
    · exact h2 i hi
  · rw [List.map_cons, h3]

theorem and_res (w : World) (p : Prop) [Decidable p] (b : Bool) : (if p then Result.ok b w else Result.ok false w) = Result.ok (decide p && b) w := by
  by_cases h : p <;> simp [h]
/-- '==' on two commands, as the model does it. -/
theorem eq_cmd (w : World) (c d : Cmd8) : (Op.equalIn 10000 23 (.agg (cmdA c)) (.agg (cmdA d))).run Tryd.prog w = .ok (eq8 c d) w := by
  unfold eq8 cmdA
  simp [go_sem]
  simp only [and_res, Bool.and_true]
  rfl
end Go.Proofs.YtnddojngbolbfaaDoor
