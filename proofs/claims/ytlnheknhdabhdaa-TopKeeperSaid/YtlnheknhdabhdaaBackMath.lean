/-
  Bodies sealed one behind the other, in numbers; two rows of a call's own, one of bytes and one of slices of bytes.
  Conditions: none.
-/
import Derived.Test.YtlnheknhdabhdaaLawFinds
import Derived.Test.YtlnheknhdabhdaaRowMore
set_option linter.unusedVariables false
namespace Go.Proofs.Ytlnheknhdabhdaa
open Go.RowKit

def goodP (p : Value × List Nat) : Bool := decide (1 ≤ p.2.length ∧ p.2.length ≤ 120)
theorem goodP_yes {p : Value × List Nat} (h1 : 1 ≤ p.2.length) (h2 : p.2.length ≤ 120) : goodP p = true := decide_eq_true ⟨h1, h2⟩
theorem goodP_no {p : Value × List Nat} (h : p.2.length < 1 ∨ 120 < p.2.length) : goodP p = false := decide_eq_false (by omega)
theorem goodP_of {p : Value × List Nat} (h : goodP p = true) : 1 ≤ p.2.length ∧ p.2.length ≤ 120 := of_decide_eq_true h
/-- The right ones of the first k. -/
def goods (ls : List (Value × List Nat)) (k : Nat) : List (Value × List Nat) := (ls.take k).filter goodP
theorem goods_zero (ls : List (Value × List Nat)) : goods ls 0 = [] := by unfold goods; rw [List.take_zero]; rfl
theorem goods_yes {ls : List (Value × List Nat)} {k : Nat} {p : Value × List Nat} (h : ls[k]? = some p) (hg : goodP p = true) : goods ls (k + 1) = goods ls k ++ [p] := by
  unfold goods
  rw [List.take_add_one, h, List.filter_append]
  simp [hg]
theorem goods_no {ls : List (Value × List Nat)} {k : Nat} {p : Value × List Nat} (h : ls[k]? = some p) (hg : goodP p = false) : goods ls (k + 1) = goods ls k := by
  unfold goods
  rw [List.take_add_one, h, List.filter_append]
  simp [hg]
theorem goods_le (ls : List (Value × List Nat)) (k : Nat) : (goods ls k).length ≤ k := by
  unfold goods
  refine Nat.le_trans (List.length_filter_le _ _) ?_
  rw [List.length_take]
  exact Nat.min_le_left _ _
theorem goods_mem {ls : List (Value × List Nat)} {k : Nat} {p : Value × List Nat} (h : p ∈ goods ls k) : p ∈ ls ∧ goodP p = true := by
  have := List.mem_filter.1 h
  exact ⟨List.mem_of_mem_take this.1, this.2⟩

/-- Their records, one behind the other. -/
def flatT : List (Value × List Nat) → List Nat
  | [] => []
  | p :: gs => sealT p.2 ++ flatT gs
theorem flatT_cons (p : Value × List Nat) (gs : List (Value × List Nat)) : flatT (p :: gs) = sealT p.2 ++ flatT gs := rfl
theorem flatT_append : ∀ gs hs, flatT (gs ++ hs) = flatT gs ++ flatT hs
  | [], _ => rfl
  | p :: gs, hs => by
    rw [List.cons_append, flatT_cons, flatT_cons, flatT_append gs hs, List.append_assoc]
theorem flatT_one (p : Value × List Nat) : flatT [p] = sealT p.2 := by
  unfold flatT
  exact List.append_nil _
theorem flatT_length : ∀ gs : List (Value × List Nat), (∀ p ∈ gs, goodP p = true) → (flatT gs).length ≤ gs.length * 122
  | [], _ => Nat.le_refl _
  | p :: gs, h => by
    have h1 := goodP_of (h p (by simp))
    have h2 := flatT_length gs (fun q hq => h q (by simp [hq]))
    show (sealT p.2 ++ flatT gs).length ≤ _
    rw [List.length_append, sealT_length, List.length_cons]
    omega
def recsT : Nat → List (Value × List Nat) → List Rc
  | _, [] => []
  | a, p :: gs => ⟨a, p.2.length + 2, true, p.2⟩ :: recsT (a + (p.2.length + 2)) gs
theorem recsT_length : ∀ (gs : List (Value × List Nat)) (a : Nat), (recsT a gs).length = gs.length
  | [], _ => rfl
  | p :: gs, a => by
    show (recsT (a + (p.2.length + 2)) gs).length + 1 = gs.length + 1
    rw [recsT_length gs]
theorem recsT_at : ∀ (gs : List (Value × List Nat)) (a j : Nat) (p : Value × List Nat), gs[j]? = some p → ∃ b n, (recsT a gs)[j]? = some ⟨b, n, true, p.2⟩
  | [], _, _, _, h => by cases h
  | q :: gs, a, 0, p, h => by
    have e : q = p := by simpa using h
    subst e
    exact ⟨a, q.2.length + 2, rfl⟩
  | q :: gs, a, j + 1, p, h => by
    have h' : gs[j]? = some p := by simpa using h
    obtain ⟨b, n, e⟩ := recsT_at gs (a + (q.2.length + 2)) j p h'
    exact ⟨b, n, e⟩
theorem first_seal {xs ys : List Nat} (h1 : 1 ≤ xs.length) (h2 : xs.length ≤ 120) : firstT (sealT xs ++ ys) = (xs.length + 2, true) := by
  have e0 : sealT xs ++ ys = xs.length :: (xs ++ [crc (xs.length :: xs)] ++ ys) := by simp [sealT]
  have e1 : (sealT xs ++ ys).take (xs.length + 1) = xs.length :: xs := by
    rw [List.take_append_of_le_length (by rw [sealT_length]; omega), sealT_take]
  have e2 : (sealT xs ++ ys).getD (xs.length + 1) 0 = crc (xs.length :: xs) := by
    rw [List.getD_eq_getElem?_getD, List.getElem?_append_left (by rw [sealT_length]; omega), sealT_last, Option.getD_some]
  have e3 := firstT_cons xs.length (xs ++ [crc (xs.length :: xs)] ++ ys)
  rw [← e0, e1, e2, beq_self_eq_true] at e3
  rw [e3, if_neg (by omega), if_neg (by rw [List.length_append, List.length_append, List.length_singleton]; omega)]
theorem split_flat : ∀ (gs : List (Value × List Nat)) (pre : List Nat), (∀ p ∈ gs, goodP p = true) → splitT (pre ++ flatT gs) pre.length = recsT pre.length gs
  | [], pre, _ => by
    show splitT (pre ++ []) pre.length = []
    rw [List.append_nil]
    exact splitT_end (Nat.le_refl _)
  | p :: gs, pre, h => by
    obtain ⟨h1, h2⟩ := goodP_of (h p (by simp))
    have hd : (pre ++ flatT (p :: gs)).drop pre.length = sealT p.2 ++ flatT gs := by
      rw [List.drop_left]
      rfl
    have hl : pre.length < (pre ++ flatT (p :: gs)).length := by
      show _ < (pre ++ (sealT p.2 ++ flatT gs)).length
      rw [List.length_append, List.length_append, sealT_length]
      omega
    obtain ⟨len, ok, hf, _, _, _, hs⟩ := rc_facts hl
    rw [hd, first_seal h1 h2] at hf
    injection hf with e1 e2
    subst e1 e2
    have ih := split_flat gs (pre ++ sealT p.2) (fun q hq => h q (by simp [hq]))
    rw [List.length_append, sealT_length, List.append_assoc] at ih
    have hb : ((pre ++ flatT (p :: gs)).drop (pre.length + 1)).take (p.2.length + 2 - 2) = p.2 := by
      rw [← List.drop_drop, hd]
      have e0 : sealT p.2 ++ flatT gs = p.2.length :: (p.2 ++ ([crc (p.2.length :: p.2)] ++ flatT gs)) := by simp [sealT]
      rw [e0, List.drop_succ_cons, List.drop_zero, show p.2.length + 2 - 2 = p.2.length by omega, List.take_left]
    rw [hs, if_pos rfl, hb]
    show _ :: splitT (pre ++ (sealT p.2 ++ flatT gs)) _ = _
    rw [ih]
    rfl
theorem split_goods {gs : List (Value × List Nat)} (h : ∀ p ∈ gs, goodP p = true) : splitT (flatT gs) 0 = recsT 0 gs := split_flat gs [] h

/-- A row of bytes and a row of slices, apart from one another. -/
structure Rows2 (W : World) (base : Nat) (v3 : Value) (xs : List Nat) (v4 : Value) (us : List Value) : Prop where
  a : Own W base v3 xs
  b : W.ownsRow base 22 1 v4 us.length us
  ne : ∀ k, v3.ownBlock = some k → v4.ownBlock ≠ some k
theorem own_at_lt {W : World} {base e size n : Nat} {v : Value} {us : List Value} (h : W.ownsRow base e size v n us) : ∀ k, v.ownBlock = some k → k < W.heap.size := by
  intro k hk
  rcases h.2 with ⟨h1, _⟩ | ⟨g, cap, cur, h1, _, h3, _⟩
  · subst h1; cases hk
  · subst h1; cases hk; exact heap_lt h3
theorem own_at_same {W W' : World} {base e size n : Nat} {v : Value} {us : List Value} (h : W.ownsRow base e size v n us) (hk : ∀ k, v.ownBlock = some k → W'.heap[k]? = W.heap[k]?) : W'.ownsRow base e size v n us := by
  refine ⟨h.1, ?_⟩
  rcases h.2 with h1 | ⟨g, cap, cur, h1, h2, h3, r⟩
  · exact .inl h1
  · exact .inr ⟨g, cap, cur, h1, h2, (hk g (by rw [h1]; rfl)).trans h3, r⟩
theorem Rows2.keep {W W' : World} {base : Nat} {v3 : Value} {xs : List Nat} {v4 : Value} {us : List Value} (h : Rows2 W base v3 xs v4 us) (hb : Below W.heap.size W W') : Rows2 W' base v3 xs v4 us :=
  ⟨h.a.keep hb, own_below h.b hb, h.ne⟩
theorem Rows2.first {W W' : World} {base : Nat} {v3 v3' : Value} {xs ys : List Nat} {v4 : Value} {us : List Value} (h : Rows2 W base v3 xs v4 us) (ho : Own W' base v3' ys) (hg : W.grownBy W' v3.ownBlock)
    (hloc : v3'.ownBlock = v3.ownBlock ∨ v3'.ownBlock = some W.heap.size) : Rows2 W' base v3' ys v4 us := by
  refine ⟨ho, own_at_same h.b (fun k hk => hg.block k (own_at_lt h.b k hk) (fun e => h.ne k e.symm hk)), fun k hk e => ?_⟩
  rcases hloc with h1 | h1
  · exact h.ne k (by rw [← h1]; exact hk) e
  · rw [h1] at hk
    injection hk with hk
    have := own_at_lt h.b k e
    omega
theorem Rows2.second {W W' : World} {base : Nat} {v3 : Value} {xs : List Nat} {v4 v4' : Value} {us us' : List Value} (h : Rows2 W base v3 xs v4 us) (ho : W'.ownsRow base 22 1 v4' us'.length us') (hg : W.grownBy W' v4.ownBlock)
    (hloc : v4'.ownBlock = v4.ownBlock ∨ v4'.ownBlock = some W.heap.size) : Rows2 W' base v3 xs v4' us' := by
  refine ⟨⟨own_at_same h.a.1 (fun k hk => hg.block k (own_at_lt h.a.1 k hk) (fun e => h.ne k hk e.symm)), h.a.2⟩, ho, fun k hk e => ?_⟩
  rcases hloc with h1 | h1
  · exact h.ne k hk (by rw [← h1]; exact e)
  · rw [h1] at e
    injection e with e
    have := own_at_lt h.a.1 k hk
    omega

theorem Try.infoBytes : (Try.prog.info? 22).map (fun i => (i.zero, i.size, i.bytes)) = some (some (.slice none 0 0), 1, 24) := by kernel_rfl

/-- Bytes are appended; where the row lies then. -/
theorem wpList_append_bytes_at {P : Program} {w : World} {ops : Array Oper} {rest : List Oper} {o : Oper} {a : Act} {Q : Exit → Act → World → Prop} (hgd : o.guard = none) (s x : Operand) (t : TypeId)
    (ho : o.op = .call { callee := .builtin .append, args := #[s, x], argTypes := #[t, t] })
    (base : Nat) (ht : P.underlying t = some (.slice 5)) (hi0 : (P.info? 5).map (fun i => (i.zero, i.size, i.bytes)) = some (some (.int .u8 0), 1, 1))
    (v : Value) (xs : List Nat) (hs : a.eval s = v) (hown : Own w base v xs) (b off n c : Nat) (ys : List Nat) (hx : a.eval x = .slice (some ⟨b, off, none⟩) n c) (hu : BytesAt w (.slice (some ⟨b, off, none⟩) n c) ys)
    (hl : xs.length + ys.length ≤ 1000000) (hb : base ≤ w.heap.size)
    (h : ∀ v' w', Own w' base v' (xs ++ ys) → w.grownBy w' v.ownBlock → (v'.ownBlock = v.ownBlock ∨ v'.ownBlock = some w.heap.size) → wpList P ops Q rest (a.put o.dst v') w') : wpList P ops Q (o :: rest) a w := by
  obtain ⟨i, hi, hz0, hz1, hz2⟩ := info_parts hi0
  obtain ⟨A', c', e, u1, u2, u3, u4, u5⟩ := hu
  injection e with e1 e2 e3
  subst e1 e2 e3
  have hall : ∀ z ∈ xs ++ ys, z < 256 := fun z hz => by
    rcases List.mem_append.1 hz with h | h
    · exact hown.2 z h
    · exact u4 z h
  have hc : ∀ j z, (bytesV ys)[j]? = some z → w.cell? ((⟨b, off, none⟩ : Addr).add j) = some z := by
    intro j z hj
    have hj' : j < ys.length := by
      have := (List.getElem?_eq_some_iff.1 hj).1
      rwa [bytesV_length] at this
    obtain ⟨b', off', e, hlt, hcell⟩ := u5 (by omega)
    cases e
    rw [Addr.add_lit]
    obtain ⟨y, hy⟩ := ex_at hj'
    have : (bytesV ys)[j]? = some (.int .u8 y) := by simp [bytesV, hy]
    rw [this] at hj
    cases hj
    exact hcell j y hy
  refine wpList_append_own_at w hgd s x t ho base 5 i (.int .u8 0) 1 1 ht hi hz0 hz1 hz2 rfl (by decide) v xs.length (bytesV xs) hs hown.1 ⟨b, off, none⟩ ys.length c (bytesV ys) hx (by simp [bytesV_length]) hc (bytesV_one ys)
    (by unfold maxLen; omega) (by omega) hb ?_
  intro v' w' h1 h2 _ h4
  exact h v' w' ⟨by rw [List.length_append, bytesV_append]; exact h1, hall⟩ h2 h4
end Go.Proofs.Ytlnheknhdabhdaa
