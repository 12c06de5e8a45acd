/-
  Where a plan's place belongs; append of pieces onto an empty row.
  Conditions: the plan is right.
-/
import Derived.Test.YtpblfonkcibagaaRefPut
set_option linter.unusedVariables false
set_option linter.unusedSimpArgs false
namespace Go.Proofs.Ytpblfonkcibagaa
open Go.RowKit

/-- A right plan without one of its places. -/
def lessT (l : List Pl) (i : Nat) : List Pl := l.take i ++ l.drop (i + 1)
theorem less_get {l : List Pl} {i : Nat} (hi : i < l.length) (j : Nat) : (lessT l i)[j]? = if j < i then l[j]? else l[j + 1]? := by
  unfold lessT
  by_cases h : j < i
  · rw [if_pos h, List.getElem?_append_left (by rw [List.length_take]; omega), List.getElem?_take_of_lt h]
  · rw [if_neg h, List.getElem?_append_right (by rw [List.length_take]; omega), List.length_take, Nat.min_eq_left (by omega), List.getElem?_drop]
    congr 1
    omega
theorem drop_less {f : Int} {m : Nat} {l : List Pl} {i : Nat} {z : Pl} (hr : Right f m l) (hi : l[i]? = some z) : dropT l z.u = lessT l i := by
  obtain ⟨hlt, _⟩ := List.getElem?_eq_some_iff.1 hi
  have e : l = l.take i ++ z :: l.drop (i + 1) := by
    obtain ⟨hk, hx'⟩ := List.getElem?_eq_some_iff.1 hi
    rw [← hx', ← List.drop_eq_getElem_cons hk, List.take_append_drop]
  have h1 : (l.take i).filter (fun x => !decide (x.u = z.u)) = l.take i := List.filter_eq_self.2 fun x hx => by
    obtain ⟨j, hj⟩ := List.mem_iff_getElem?.1 hx
    have hji : j < i := by
      have := (List.getElem?_eq_some_iff.1 hj).1
      rw [List.length_take] at this
      omega
    rw [List.getElem?_take_of_lt hji] at hj
    have := hr.rise hji hj hi
    simp
    omega
  have h2 : (l.drop (i + 1)).filter (fun x => !decide (x.u = z.u)) = l.drop (i + 1) := List.filter_eq_self.2 fun x hx => by
    obtain ⟨j, hj⟩ := List.mem_iff_getElem?.1 hx
    rw [List.getElem?_drop] at hj
    have := hr.rise (show i < i + 1 + j by omega) hi hj
    simp
    omega
  unfold dropT lessT
  conv => lhs; rw [e]
  rw [List.filter_append, List.filter_cons, h1, h2]
  simp
theorem less_put {f : Int} {m : Nat} {l : List Pl} {i : Nat} {z : Pl} (hr : Right f m l) (hi : l[i]? = some z) : PutAt (lessT l i) z.u i := by
  have hlt := (List.getElem?_eq_some_iff.1 hi).1
  refine ⟨by unfold lessT; rw [List.length_append, List.length_take]; omega, fun j y hy => ?_⟩
  rw [less_get hlt] at hy
  by_cases h : j < i
  · rw [if_pos h] at hy
    have := hr.rise h hy hi
    exact ⟨fun _ => h, fun _ => this⟩
  · rw [if_neg h] at hy
    have := hr.rise (show i < j + 1 by omega) hi hy
    exact ⟨fun e => by omega, fun e => absurd e h⟩
theorem less_drop {d : List Pl} {u : Int} {i : Nat} (h : PutAt d u i) (hn : ∀ x ∈ d, x.u ≠ u) : dropT d u = d := List.filter_eq_self.2 fun x hx => by simp [hn x hx]
theorem less_ne {f : Int} {m : Nat} {l : List Pl} {i : Nat} {z : Pl} (hr : Right f m l) (hi : l[i]? = some z) : ∀ x ∈ lessT l i, x.u ≠ z.u := fun x hx => by
  rw [← drop_less hr hi] at hx
  simpa using (List.mem_filter.1 hx).2
theorem less_back {l : List Pl} {i : Nat} {z : Pl} (hi : l[i]? = some z) : putPl (lessT l i) z i = l := by
  have hlt := (List.getElem?_eq_some_iff.1 hi).1
  have e : l = l.take i ++ z :: l.drop (i + 1) := by
    obtain ⟨hk, hx'⟩ := List.getElem?_eq_some_iff.1 hi
    rw [← hx', ← List.drop_eq_getElem_cons hk, List.take_append_drop]
  have hti : (l.take i).length = i := by rw [List.length_take]; omega
  unfold putPl lessT
  rw [List.take_append_of_le_length (by omega), List.take_of_length_le (by omega), List.drop_append_of_le_length (by omega), List.drop_of_length_le (by omega)]
  conv => rhs; rw [e]
  simp

/-- append in a region that draws, by its run. -/
theorem step_append_run16 {ops : Array Oper} {o : Oper} {a : Act} {w : World} {K : Act → World → Prop} {Q : Exit → Act → World → Prop} {E : Prop}
    (hg : o.guard = none) (d x : Operand) (dT sT : TypeId) (hop : o.op = Op.call { callee := Callee.builtin Builtin.append, args := #[d, x], argTypes := #[dT, sT] })
    (v u : Value) (hd : a.eval d = v) (hx : a.eval x = u) {v' : Value} {w' : World} (hr : (Builtin.append_ #[dT, sT] o.type #[v, u]).run Try.prog w = .ok v' w') (hK : K (a.put o.dst v') w') :
    if Region.wanted o (yielded ops a.tmps) = true then Oper.wp Try.prog o a w K Q else E := by
  have hw : Region.wanted o (yielded ops a.tmps) = true := by simp [Region.wanted, hg]
  rw [if_pos hw]
  unfold Oper.wp
  simp [execOp, hop, resolve, invoke, builtin, hd, hx, hr, Result.andThen]
  exact hK
theorem step_store_row16 {ops : Array Oper} {o : Oper} {a : Act} {w : World} {K : Act → World → Prop} {Q : Exit → Act → World → Prop} {E : Prop}
    (hg : o.guard = none) (ty : TypeId) (x y : Operand) (ho : o.op = .store ty x y)
    (g : Nat) (cells : Array Value) (hx : a.eval x = .pointer (some ⟨g, 0, none⟩)) (hy : a.eval y = .agg cells)
    (t : TypeId) (old : Array Value) (hgg : w.heap[g]? = some (.cells old t (0, 0))) (hi : (Try.prog.info? ty).map (·.size) = some cells.size)
    (hold : old.size = cells.size) (h1 : cells.all (·.oneCell') = true) (hK : K (a.put o.dst undef) (w.setRow g cells)) :
    if Region.wanted o (yielded ops a.tmps) = true then Oper.wp Try.prog o a w K Q else E := by
  have hw : Region.wanted o (yielded ops a.tmps) = true := by simp [Region.wanted, hg]
  rw [if_pos hw]
  exact wp_store_row ty x y ho g cells hx hy t old hgg hi hold h1 hK
theorem pcs_of_ownB {W : World} {base : Nat} {v : Value} {ps : List Pc} (h : W.ownsRow base 54 2 v ps.length (pcsCells ps)) : PcsIn (fun b => v.ownBlock = some b) W v ps := by
  obtain ⟨A, c, rfl, h1, h2, h3⟩ := pcs_of_own h
  refine ⟨A, c, rfl, h1, h2, fun h0 => ?_⟩
  obtain ⟨b, off, rfl, hb, _, hc⟩ := h3 h0
  exact ⟨b, off, rfl, hb, rfl, hc⟩
/-- append of pieces onto an empty row. -/
theorem app_pcs (W : World) (E : Nat) (hE : W.heap[E]? = some (.cells #[] 54 (0, 0))) (v : Value) (ps : List Pc) (h : PcsAt W v ps) (hl : ps.length ≤ 1000) :
    ∃ v' w', (Builtin.append_ #[31, 31] 31 #[.slice (some ⟨E, 0, none⟩) 0 0, v]).run Try.prog W = .ok v' w' ∧ PcsIn (fun b => b = E ∨ W.heap.size ≤ b) w' v' ps ∧ Below E W w' ∧ ∀ b, b < W.heap.size → b ≠ E → w'.heap[b]? = W.heap[b]? := by
  obtain ⟨i, hi, hz0, hz1, hz2⟩ := info_parts Try.infoPc
  obtain ⟨A, c, rfl, h1, h2, h3⟩ := h
  have hEl := heap_lt hE
  rcases A with _ | a
  · have : ps = [] := by
      rcases Nat.eq_zero_or_pos ps.length with h | h
      · exact List.eq_nil_of_length_eq_zero h
      · obtain ⟨b, off, e, _⟩ := h3 h; cases e
    subst this
    refine ⟨.slice (some ⟨E, 0, none⟩) 0 0, W, ?_, ⟨_, 0, rfl, Nat.le_refl _, by decide, fun h => absurd h (by decide)⟩, Below.refl _ _, fun _ _ _ => rfl⟩
    simp [Builtin.append_, run_underlying Try.underlying31, Builtin.lenOf, sizeOf, typeInfo, hi, hz1, Builtin.firstCells, storeCells, Result.andThen]
  · have hown : W.ownsRow E 54 2 (.slice (some ⟨E, 0, none⟩) 0 0) 0 [] := ⟨rfl, .inr ⟨E, 0, #[], rfl, Nat.le_refl _, hE, Nat.le_refl _, Nat.zero_le _, rfl, rfl⟩⟩
    obtain ⟨v', w', hr, ho, hg, _, hat⟩ := run_append_own_at (P := Try.prog) W E 31 31 54 i (.agg #[.int .i64 0, .int .u64 0]) 2 16 Try.underlying31 hi hz0 hz1 hz2 rfl (by decide) _ 0 [] hown a ps.length c (pcsCells ps) (pcsCells_length ps) (fun j u hj => by
      have hj' : j < ps.length * 2 := by rw [← pcsCells_length]; exact (List.getElem?_eq_some_iff.1 hj).1
      obtain ⟨b, off, e, hlt, _, hc⟩ := h3 (by omega)
      cases e
      rw [Addr.add_lit]
      exact pcsCells_of ps hc j u hj) (pcsCells_one ps) (by unfold maxLen; omega) (by omega) (by omega)
    rw [Nat.zero_add, List.nil_append] at ho
    refine ⟨v', w', hr, (pcs_of_ownB ho).mono fun b _ hb => ?_, below_grown5 hg (by omega) fun k hk => (by cases hk; exact Nat.le_refl _), fun b hb hne => hg.block b hb fun e => hne (by cases e; rfl)⟩
    rcases hat with hat | hat
    · rw [hat] at hb
      exact .inl (Option.some.inj hb).symm
    · rw [hat] at hb
      exact .inr (Nat.le_of_eq (Option.some.inj hb))
end Go.Proofs.Ytpblfonkcibagaa
