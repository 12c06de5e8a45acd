/-
  A slice that reads as a list of ints; rows of ints and of words of a call's own.
  Conditions: none.
-/
import Derived.Test.YtaffcpjhaacadaaNumMath
import Derived.RangeFuncBox
import Derived.Laws.Rows
import Derived.Lib.SliceRun
import Derived.Shelf.RegionOpenPlain
set_option linter.unusedVariables false
namespace Go.Proofs.Ytaffcpjhaacadaa
open Go.RowKit

/-- The slice value 'v' reads as the numbers 'xs'; it lies in memory that is there. -/
def IntsAt (W : World) (v : Value) (xs : List Int) : Prop :=
  ∃ A c, v = .slice A xs.length c ∧ xs.length ≤ 9223372036854775807 ∧
    (0 < xs.length → ∃ b off, A = some ⟨b, off, none⟩ ∧ b < W.heap.size ∧ ∀ (j : Nat) (x : Int), xs[j]? = some x → W.cell? ⟨b, off + j, none⟩ = some (.int .i64 x))
theorem IntsAt.nil (W : World) : IntsAt W (.slice none 0 0) [] := ⟨none, 0, rfl, by decide, fun h => absurd h (by decide)⟩
theorem IntsAt.keep {W W' : World} {v : Value} {xs : List Int} (h : IntsAt W v xs) (hb : Below W.heap.size W W') : IntsAt W' v xs := by
  obtain ⟨A, c, h1, h2, h3⟩ := h
  refine ⟨A, c, h1, h2, fun hn => ?_⟩
  obtain ⟨b, off, e, hlt, hc⟩ := h3 hn
  exact ⟨b, off, e, Nat.lt_of_lt_of_le hlt hb.size, fun j x hx => (hb.cell (p := ⟨b, off + j, none⟩) hlt).trans (hc j x hx)⟩
theorem IntsAt.form {W : World} {v : Value} {xs : List Int} (h : IntsAt W v xs) : ∃ A c, v = .slice A xs.length c := by
  obtain ⟨A, c, h1, _⟩ := h
  exact ⟨A, c, h1⟩
theorem exI_at {xs : List Int} {k : Nat} (h : k < xs.length) : ∃ x, xs[k]? = some x := ⟨xs[k], List.getElem?_eq_getElem h⟩
theorem quiet_ret {P : Program} {f : FuncId} {args : Array Value} {w : World} {n : Nat} {v : Value} (h : Calls P f args (w.drewN n) (Ret v (w.drewN n))) :
    Calls P f args (w.drewN n) (fun e w' => e = .returned v ∧ ∃ n', w' = w.drewN n') :=
  h.mono (fun e w' h => ⟨h.1, n, h.2.symm⟩)
theorem below_new {W : World} (o : Obj) : Below W.heap.size W (W.alloc o) := (Below.refl _ _).alloc (Nat.le_refl _) _
theorem Try.infoU : (Try.prog.info? 44).map (fun i => (i.zero, i.size, i.bytes)) = some (some (.int .u64 0), 1, 8) := by kernel_rfl
theorem Try.infoInt : (Try.prog.info? 3).map (fun i => (i.zero, i.size, i.bytes)) = some (some (.int .i64 0), 1, 8) := by kernel_rfl
/-- A row of numbers of a kind, of a call's own. -/
def OwnK (K : IntKind) (T : TypeId) (W : World) (base : Nat) (v : Value) (xs : List Nat) : Prop := W.ownsRow base T 1 v xs.length (xs.map fun n : Nat => Value.int K n)
theorem OwnK.nil (K : IntKind) (T : TypeId) (W : World) (base : Nat) : OwnK K T W base (.slice none 0 0) [] := World.ownsRow_nil W base _ 1
theorem OwnK.cells {K : IntKind} {T : TypeId} {W : World} {base : Nat} {v : Value} {xs : List Nat} (h : OwnK K T W base v xs) :
    (v = .slice none 0 0 ∧ xs = []) ∨ ∃ g cap, v = .slice (some ⟨g, 0, none⟩) xs.length cap ∧ xs.length ≤ cap ∧ cap ≤ maxLen ∧ base ≤ g ∧ g < W.heap.size ∧ ∀ (j : Nat) (x : Nat), xs[j]? = some x → W.cell? ⟨g, 0 + j, none⟩ = some (.int K x) := by
  obtain ⟨h1, h2⟩ := h
  rcases h2 with ⟨rfl, h0⟩ | ⟨g, cap, cur, rfl, hg, hh, hn, hc, hs, ht⟩
  · exact .inl ⟨rfl, List.eq_nil_of_length_eq_zero h0⟩
  · refine .inr ⟨g, cap, rfl, hn, hc, hg, heap_lt hh, fun j x hx => ?_⟩
    rw [Nat.zero_add, cell_of_row W g j _ _ (0, 0) hh]
    have hj : j < xs.length := (List.getElem?_eq_some_iff.1 hx).1
    have : (cur.toList.take (xs.length * 1))[j]? = some (.int K x) := by rw [ht]; simp [hx]
    rw [List.getElem?_take, if_pos (by omega)] at this
    rw [← this]
    simp
theorem OwnK.words {W : World} {base : Nat} {v : Value} {xs : List Nat} (h : OwnK .u64 44 W base v xs) (hx : ∀ x ∈ xs, x < 18446744073709551616) : WordsAt W v xs := by
  rcases h.cells with ⟨rfl, rfl⟩ | ⟨g, cap, rfl, h1, h2, h3, h4, h5⟩
  · exact NumsAt.nil _ _ W
  · exact ⟨_, _, rfl, h1, by unfold maxLen at h2; omega, fun e => (by cases e), hx, fun _ => ⟨g, 0, rfl, h4, h5⟩⟩
theorem OwnK.ints {W : World} {base : Nat} {v : Value} {xs : List Nat} (h : OwnK .i64 3 W base v xs) (hl : xs.length ≤ 100000) : IntsAt W v (xs.map fun n : Nat => (n : Int)) := by
  rcases h.cells with ⟨rfl, rfl⟩ | ⟨g, cap, rfl, h1, h2, h3, h4, h5⟩
  · exact IntsAt.nil W
  · refine ⟨some ⟨g, 0, none⟩, cap, by rw [List.length_map], by rw [List.length_map]; omega, fun _ => ⟨g, 0, rfl, h4, fun j x hx => ?_⟩⟩
    rw [List.getElem?_map] at hx
    obtain ⟨y, hy, rfl⟩ := Option.map_eq_some_iff.1 hx
    exact h5 j y hy
theorem OwnK.base {K : IntKind} {T : TypeId} {W : World} {base : Nat} {v : Value} {xs : List Nat} (h : OwnK K T W base v xs) : ∀ k, v.ownBlock = some k → base ≤ k := by
  intro k hk
  rcases h.cells with ⟨rfl, _⟩ | ⟨g, cap, rfl, _, _, h3, _⟩
  · cases hk
  · cases hk; exact h3
theorem OwnK.form {K : IntKind} {T : TypeId} {W : World} {base : Nat} {v : Value} {xs : List Nat} (h : OwnK K T W base v xs) : ∃ A k, v = .slice A xs.length k := by
  rcases h.cells with ⟨rfl, rfl⟩ | ⟨g, cap, rfl, _⟩
  · exact ⟨none, 0, rfl⟩
  · exact ⟨_, _, rfl⟩
theorem OwnK.alloc {K : IntKind} {T : TypeId} {W : World} {base : Nat} {v : Value} {xs : List Nat} (h : OwnK K T W base v xs) (o : Obj) : OwnK K T (W.alloc o) base v xs := World.ownsRow.alloc h o
theorem OwnK.keep {K : IntKind} {T : TypeId} {W W' : World} {base : Nat} {v : Value} {xs : List Nat} (h : OwnK K T W base v xs) (hb : Below W.heap.size W W') : OwnK K T W' base v xs := by
  refine ⟨h.1, ?_⟩
  rcases h.2 with h1 | ⟨g, cap, cur, h1, h2, h3, r⟩
  · exact .inl h1
  · exact .inr ⟨g, cap, cur, h1, h2, (hb.block g (heap_lt h3)).trans h3, r⟩
theorem OwnK.weaken {K : IntKind} {T : TypeId} {W : World} {base base' : Nat} {v : Value} {xs : List Nat} (h : OwnK K T W base v xs) (hb : base' ≤ base) : OwnK K T W base' v xs := by
  refine ⟨h.1, ?_⟩
  rcases h.2 with h1 | ⟨g, cap, cur, h1, h2, r⟩
  · exact .inl h1
  · exact .inr ⟨g, cap, cur, h1, by omega, r⟩
/-- What changes in one block leaves a row in another one. -/
theorem OwnK.apart {K : IntKind} {T : TypeId} {F : Nat → Prop} {W W' : World} {base : Nat} {v : Value} {xs : List Nat} (h : OwnK K T W base v xs) (ha : Apart F W W') (hF : ∀ k, v.ownBlock = some k → ¬ F k) : OwnK K T W' base v xs := by
  refine ⟨h.1, ?_⟩
  rcases h.2 with h1 | ⟨g, cap, cur, h1, h2, h3, r⟩
  · exact .inl h1
  · exact .inr ⟨g, cap, cur, h1, h2, (ha.block g (heap_lt h3) (hF g (by rw [h1]; rfl))).trans h3, r⟩
/-- One number is appended to a row of the call's own. -/
theorem wpList_append_num {P : Program} {w : World} {ops : Array Oper} {rest : List Oper} {o : Oper} {a : Act} {Q : Exit → Act → World → Prop} (hgd : o.guard = none) (s x : Operand) (t : TypeId) (K : IntKind) (T : TypeId)
    (ho : o.op = .call { callee := .builtin .append, args := #[s, x], argTypes := #[t, t] })
    (base : Nat) (ht : P.underlying t = some (.slice T)) (hi0 : (P.info? T).map (fun i => (i.zero, i.size, i.bytes)) = some (some (.int K 0), 1, 8))
    (v : Value) (xs : List Nat) (hs : a.eval s = v) (hown : OwnK K T w base v xs) (b c y : Nat) (hx : a.eval x = .slice (some ⟨b, 0, none⟩) 1 c) (hy : w.cell? ⟨b, 0, none⟩ = some (.int K y))
    (hl : xs.length ≤ 1000000) (hb : base ≤ w.heap.size)
    (h : ∀ v' w', OwnK K T w' base v' (xs ++ [y]) → Below base w w' → wpList P ops Q rest (a.put o.dst v') w') : wpList P ops Q (o :: rest) a w := by
  obtain ⟨i, hi, hz0, hz1, hz2⟩ := info_parts hi0
  refine wpList_append_own w hgd s x t ho base T i (.int K 0) 1 8 ht hi hz0 hz1 hz2 rfl (by decide) v xs.length _ hs hown ⟨b, 0, none⟩ 1 c [.int K y] hx rfl ?_ ?_ (by unfold maxLen; omega) (by omega) hb ?_
  · intro j u hj
    rcases j with _ | j
    · have e : Value.int K y = u := by simpa using hj
      subst e
      rw [Addr.add_lit]
      exact hy
    · simp at hj
  · intro u hu
    have e : u = Value.int K y := by simpa using hu
    subst e
    rfl
  · intro v' w' h1 h2 h3
    refine h v' w' ?_ (below_grown h2 hb hown.base)
    show w'.ownsRow base T 1 v' (xs ++ [y]).length _
    rw [List.length_append, List.map_append]
    exact h1
end Go.Proofs.Ytaffcpjhaacadaa
