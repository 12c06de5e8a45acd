/-
  Numbers alone: ticks that are given out one behind the other, round.
  Conditions: those that each statement lists.
-/
import Derived.Test.YtkgkanmccaodfaaM04
import Derived.Deep.MidRow
import Derived.Deep.WholeRow
import Derived.Test.YtkgkanmccaodfaaM01
import Derived.Test.YtkgkanmccaodfaaM02

/-
  The loom and the matching in memory: a frame, cores, gaps, rooms, and the ticks given and the cores tried.
  Conditions: none.
-/
set_option linter.unusedVariables false
namespace Go.Proofs.Ytkgkanmccaodfaa
open Go.RowKit

def arrB (T : Nat → Bool) : Array Value := ((List.range 16).map fun i => Value.bool (T i)).toArray
theorem arrB_size (T : Nat → Bool) : (arrB T).size = 16 := by simp [arrB]
theorem arrB_get (T : Nat → Bool) {i : Nat} (h : i < 16) : (arrB T)[i]? = some (.bool (T i)) := by simp [arrB, h]
theorem arrB_one (T : Nat → Bool) : (arrB T).all (·.oneCell') = true := by
  rw [Array.all_eq_true_iff_forall_mem]
  intro v hv
  simp only [arrB, List.mem_toArray, List.mem_map] at hv
  obtain ⟨i, _, rfl⟩ := hv
  rfl
theorem arrB_set (T : Nat → Bool) (j : Nat) (x : Bool) : (arrB T).setIfInBounds j (.bool x) = arrB fun i => if i = j then x else T i := by
  apply Array.ext_getElem?
  intro i
  rw [Array.getElem?_setIfInBounds]
  by_cases hi : i < 16
  · rw [arrB_get _ hi, arrB_get _ hi]
    by_cases e : j = i
    · subst e
      simp [arrB_size, hi]
    · rw [if_neg e, if_neg (fun h => e h.symm)]
  · rw [Array.getElem?_eq_none (by rw [arrB_size]; omega), Array.getElem?_eq_none (by rw [arrB_size]; omega)]
    split
    · rw [if_neg (by rw [arrB_size]; omega)]
    · rfl
/-- A loom's cells: the frame, the cores, their gaps, their rooms. -/
def loomC (F : Int) (v : Value) (g r : Nat → Nat) : Array Value := #[.int .i64 F, v] ++ arrU g ++ arrI fun c => (r c : Int)
def loomA (F : Int) (v : Value) (g r : Nat → Nat) : Value := .agg (loomC F v g r)
/-- A matching's: those of its loom, the ticks that each core owns, the cores that were tried. -/
def matchC (F : Int) (v : Value) (g r ow : Nat → Nat) (T : Nat → Bool) : Array Value := loomC F v g r ++ arrU ow ++ arrB T
theorem loomC_size (F : Int) (v : Value) (g r : Nat → Nat) : (loomC F v g r).size = 34 := by simp [loomC, arrU_size, arrI_size]
theorem matchC_size (F : Int) (v : Value) (g r ow : Nat → Nat) (T : Nat → Bool) : (matchC F v g r ow T).size = 66 := by simp [matchC, loomC_size, arrU_size, arrB_size]
theorem loomC_head (F : Int) (v : Value) (g r : Nat → Nat) : (loomC F v g r)[0]? = some (.int .i64 F) ∧ (loomC F v g r)[1]? = some v := by
  unfold loomC
  refine ⟨?_, ?_⟩ <;> rw [Array.append_assoc, Array.getElem?_append_left (by simp)] <;> rfl
theorem loomC_gap (F : Int) (v : Value) (g r : Nat → Nat) {c : Nat} (h : c < 16) : (loomC F v g r)[2 + c]? = some (.int .u64 (g c : Nat)) := by
  unfold loomC
  rw [Array.getElem?_append_left (by first | (simp [arrU_size]; omega) | simp [arrU_size]), Array.getElem?_append_right (by simp)]
  have : 2 + c - (#[Value.int .i64 F, v] : Array Value).size = c := by show 2 + c - 2 = c; omega
  rw [this, arrU_get _ h]
theorem loomC_room (F : Int) (v : Value) (g r : Nat → Nat) {c : Nat} (h : c < 16) : (loomC F v g r)[18 + c]? = some (.int .i64 (r c : Nat)) := by
  unfold loomC
  rw [Array.getElem?_append_right (by first | (simp [arrU_size]; omega) | simp [arrU_size])]
  have : 18 + c - ((#[Value.int .i64 F, v] : Array Value) ++ arrU g).size = c := by simp [arrU_size]
  rw [this, arrI_get _ h]
theorem matchC_loom (F : Int) (v : Value) (g r ow : Nat → Nat) (T : Nat → Bool) {i : Nat} (h : i < 34) : (matchC F v g r ow T)[i]? = (loomC F v g r)[i]? := by
  unfold matchC
  rw [Array.append_assoc, Array.getElem?_append_left (by rw [loomC_size]; exact h)]
theorem matchC_own (F : Int) (v : Value) (g r ow : Nat → Nat) (T : Nat → Bool) {c : Nat} (h : c < 16) : (matchC F v g r ow T)[34 + c]? = some (.int .u64 (ow c : Nat)) := by
  unfold matchC
  rw [Array.getElem?_append_left (by first | (simp [arrU_size, loomC_size]; omega) | simp [arrU_size, loomC_size]), Array.getElem?_append_right (by rw [loomC_size]; omega), loomC_size]
  rw [show 34 + c - 34 = c by omega, arrU_get _ h]
theorem matchC_tried (F : Int) (v : Value) (g r ow : Nat → Nat) (T : Nat → Bool) {c : Nat} (h : c < 16) : (matchC F v g r ow T)[50 + c]? = some (.bool (T c)) := by
  unfold matchC
  rw [Array.getElem?_append_right (by first | (simp [arrU_size, loomC_size]; omega) | simp [arrU_size, loomC_size])]
  have : 50 + c - (loomC F v g r ++ arrU ow).size = c := by simp [arrU_size, loomC_size]
  rw [this, arrB_get _ h]
/-- The index of a cell of the parts. -/
theorem set_left {A B : Array Value} {i : Nat} {x : Value} (h : i < A.size) : (A ++ B).setIfInBounds i x = A.setIfInBounds i x ++ B := by
  rw [Array.setIfInBounds_append, if_pos h]
theorem set_right {A B : Array Value} {i : Nat} {x : Value} (h : A.size ≤ i) : (A ++ B).setIfInBounds i x = A ++ B.setIfInBounds (i - A.size) x := by
  rw [Array.setIfInBounds_append, if_neg (by omega)]
theorem loomC_setGap (F : Int) (v : Value) (g r : Nat → Nat) {c x : Nat} (h : c < 16) : (loomC F v g r).setIfInBounds (2 + c) (.int .u64 x) = loomC F v (fun i => if i = c then x else g i) r := by
  unfold loomC
  rw [set_left (by first | (simp [arrU_size]; omega) | simp [arrU_size]), set_right (by simp), show 2 + c - (#[Value.int .i64 F, v] : Array Value).size = c by show 2 + c - 2 = c; omega, arrU_set]
theorem loomC_setRoom (F : Int) (v : Value) (g r : Nat → Nat) {c x : Nat} (h : c < 16) : (loomC F v g r).setIfInBounds (18 + c) (.int .i64 x) = loomC F v g (fun i => if i = c then x else r i) := by
  unfold loomC
  rw [set_right (by first | (simp [arrU_size]; omega) | simp [arrU_size]), show 18 + c - ((#[Value.int .i64 F, v] : Array Value) ++ arrU g).size = c by simp [arrU_size], arrI_set]
  congr 1
  refine arrI_congr fun i _ => ?_
  show (if i = c then (x : Int) else (r i : Int)) = ((if i = c then x else r i : Nat) : Int)
  by_cases e : i = c
  · rw [if_pos e, if_pos e]
  · rw [if_neg e, if_neg e]
theorem matchC_setOwn (F : Int) (v : Value) (g r ow : Nat → Nat) (T : Nat → Bool) {c x : Nat} (h : c < 16) : (matchC F v g r ow T).setIfInBounds (34 + c) (.int .u64 x) = matchC F v g r (fun i => if i = c then x else ow i) T := by
  unfold matchC
  rw [set_left (by first | (simp [arrU_size, loomC_size]; omega) | simp [arrU_size, loomC_size]), set_right (by rw [loomC_size]; omega), loomC_size, show 34 + c - 34 = c by omega, arrU_set]
theorem matchC_setTried (F : Int) (v : Value) (g r ow : Nat → Nat) (T : Nat → Bool) {c : Nat} {x : Bool} (h : c < 16) : (matchC F v g r ow T).setIfInBounds (50 + c) (.bool x) = matchC F v g r ow (fun i => if i = c then x else T i) := by
  unfold matchC
  rw [set_right (by first | (simp [arrU_size, loomC_size]; omega) | simp [arrU_size, loomC_size]), show 50 + c - (loomC F v g r ++ arrU ow).size = c by simp [arrU_size, loomC_size], arrB_set]
/-- The block is a loom, a matching. -/
abbrev LoomIn (W : World) (X : Nat) (F : Int) (v : Value) (g r : Nat → Nat) : Prop := W.heap[X]? = some (.cells (loomC F v g r) 57 (0, 0))
abbrev MatchIn (W : World) (X : Nat) (F : Int) (v : Value) (g r ow : Nat → Nat) (T : Nat → Bool) : Prop := W.heap[X]? = some (.cells (matchC F v g r ow T) 77 (0, 0))
section
variable {W : World} {X : Nat} {F : Int} {v : Value} {g r ow : Nat → Nat} {T : Nat → Bool}
theorem LoomIn.frame (h : LoomIn W X F v g r) : W.cell? ⟨X, 0, none⟩ = some (.int .i64 F) := by rw [cell_of_row W X 0 _ _ _ h]; exact (loomC_head F v g r).1
theorem LoomIn.cores (h : LoomIn W X F v g r) : W.cell? ⟨X, 1, none⟩ = some v := by rw [cell_of_row W X 1 _ _ _ h]; exact (loomC_head F v g r).2
theorem LoomIn.gap (h : LoomIn W X F v g r) {c : Nat} (hc : c < 16) : W.cell? ⟨X, 2 + c, none⟩ = some (.int .u64 (g c : Nat)) := by rw [cell_of_row W X (2 + c) _ _ _ h]; exact loomC_gap F v g r hc
theorem LoomIn.room (h : LoomIn W X F v g r) {c : Nat} (hc : c < 16) : W.cell? ⟨X, 18 + c, none⟩ = some (.int .i64 (r c : Nat)) := by rw [cell_of_row W X (18 + c) _ _ _ h]; exact loomC_room F v g r hc
theorem MatchIn.frame (h : MatchIn W X F v g r ow T) : W.cell? ⟨X, 0, none⟩ = some (.int .i64 F) := by rw [cell_of_row W X 0 _ _ _ h, matchC_loom _ _ _ _ _ _ (by decide)]; exact (loomC_head F v g r).1
theorem MatchIn.cores (h : MatchIn W X F v g r ow T) : W.cell? ⟨X, 1, none⟩ = some v := by rw [cell_of_row W X 1 _ _ _ h, matchC_loom _ _ _ _ _ _ (by decide)]; exact (loomC_head F v g r).2
theorem MatchIn.gap (h : MatchIn W X F v g r ow T) {c : Nat} (hc : c < 16) : W.cell? ⟨X, 2 + c, none⟩ = some (.int .u64 (g c : Nat)) := by rw [cell_of_row W X (2 + c) _ _ _ h, matchC_loom _ _ _ _ _ _ (by omega)]; exact loomC_gap F v g r hc
theorem MatchIn.room (h : MatchIn W X F v g r ow T) {c : Nat} (hc : c < 16) : W.cell? ⟨X, 18 + c, none⟩ = some (.int .i64 (r c : Nat)) := by rw [cell_of_row W X (18 + c) _ _ _ h, matchC_loom _ _ _ _ _ _ (by omega)]; exact loomC_room F v g r hc
theorem MatchIn.own (h : MatchIn W X F v g r ow T) {c : Nat} (hc : c < 16) : W.cell? ⟨X, 34 + c, none⟩ = some (.int .u64 (ow c : Nat)) := by rw [cell_of_row W X (34 + c) _ _ _ h]; exact matchC_own F v g r ow T hc
theorem MatchIn.tried (h : MatchIn W X F v g r ow T) {c : Nat} (hc : c < 16) : W.cell? ⟨X, 50 + c, none⟩ = some (.bool (T c)) := by rw [cell_of_row W X (50 + c) _ _ _ h]; exact matchC_tried F v g r ow T hc
theorem block_free {W : World} {X i : Nat} {A : Array Value} {t : TypeId} (h : W.heap[X]? = some (.cells A t (0, 0))) : W.frozen? ⟨X, i, none⟩ = false := by simp [World.frozen?, h]
theorem LoomIn.setGap (h : LoomIn W X F v g r) {c x : Nat} (hc : c < 16) : LoomIn (W.setCell ⟨X, 2 + c, none⟩ (.int .u64 x)) X F v (fun i => if i = c then x else g i) r := by
  have := heap_setCell_mem W X (2 + c) _ _ _ (.int .u64 x) h
  rwa [loomC_setGap _ _ _ _ hc] at this
theorem LoomIn.setRoom (h : LoomIn W X F v g r) {c x : Nat} (hc : c < 16) : LoomIn (W.setCell ⟨X, 18 + c, none⟩ (.int .i64 x)) X F v g (fun i => if i = c then x else r i) := by
  have := heap_setCell_mem W X (18 + c) _ _ _ (.int .i64 x) h
  rwa [loomC_setRoom _ _ _ _ hc] at this
theorem MatchIn.setOwn (h : MatchIn W X F v g r ow T) {c x : Nat} (hc : c < 16) : MatchIn (W.setCell ⟨X, 34 + c, none⟩ (.int .u64 x)) X F v g r (fun i => if i = c then x else ow i) T := by
  have := heap_setCell_mem W X (34 + c) _ _ _ (.int .u64 x) h
  rwa [matchC_setOwn _ _ _ _ _ _ hc] at this
theorem MatchIn.setTried (h : MatchIn W X F v g r ow T) {c : Nat} {x : Bool} (hc : c < 16) : MatchIn (W.setCell ⟨X, 50 + c, none⟩ (.bool x)) X F v g r ow (fun i => if i = c then x else T i) := by
  have := heap_setCell_mem W X (50 + c) _ _ _ (.bool x) h
  rwa [matchC_setTried _ _ _ _ _ _ hc] at this
end
theorem Try.sizeLm (F : Int) (v : Value) (g r : Nat → Nat) : (Try.prog.info? 57).map (·.size) = some (loomC F v g r).size := by rw [loomC_size]; kernel_rfl
theorem Try.sizeMt (F : Int) (v : Value) (g r ow : Nat → Nat) (T : Nat → Bool) : (Try.prog.info? 77).map (·.size) = some (matchC F v g r ow T).size := by rw [matchC_size]; kernel_rfl
theorem Try.sizeAB (T : Nat → Bool) : (Try.prog.info? 75).map (·.size) = some (arrB T).size := by rw [arrB_size]; kernel_rfl
theorem Try.builtMt (F : Int) (v : Value) (g r : Nat → Nat) : Try.prog.built 77 [(0, .agg (loomC F v g r))] = some (matchC F v g r (fun _ => 0) fun _ => false) := by kernel_rfl
theorem Try.builtLm (F : Int) (A : Option Addr) (n c : Nat) : Try.prog.built 57 [(0, .int .i64 F), (1, .slice A n c)] = some (loomC F (.slice A n c) (fun _ => 0) fun _ => 0) := by kernel_rfl
theorem loomC_one (F : Int) (A : Option Addr) (n c : Nat) (g r : Nat → Nat) : (loomC F (.slice A n c) g r).all (·.oneCell') = true := by
  unfold loomC
  rw [Array.all_append, Array.all_append, arrU_one, arrI_one]
  simp [Value.oneCell', go_sem]
theorem matchC_one (F : Int) (A : Option Addr) (n c : Nat) (g r ow : Nat → Nat) (T : Nat → Bool) : (matchC F (.slice A n c) g r ow T).all (·.oneCell') = true := by
  unfold matchC
  rw [Array.all_append, Array.all_append, loomC_one, arrU_one, arrB_one]
  rfl
theorem wpList_build_is {P : Program} {ops : Array Oper} {rest : List Oper} {o : Oper} {a : Act} {w : World} {Q : Exit → Act → World → Prop} (hg : o.guard = none) (t : TypeId) (parts : Array (Nat × Operand)) (ho : o.op = .build t parts)
    (vs : List (Nat × Value)) (cells : Array Value) (he : (parts.map fun (i, x) => (i, a.eval x)).toList = vs) (hb : P.built t vs = some cells) (h : wpList P ops Q rest (a.put o.dst (.agg cells)) w) : wpList P ops Q (o :: rest) a w := by
  refine wpList_build hg t parts ho ?_ ?_
  · rw [he, hb]; rfl
  · rw [he, hb]; exact h
theorem wp_alloc_is {P : Program} {o : Oper} {a : Act} {w : World} {K : Act → World → Prop} {Q : Exit → Act → World → Prop} (t : TypeId) (ho : o.op = .alloc t)
    (cells : Array Value) (hz : (P.info? t).bind (·.zero) = some (.agg cells)) (h : K (a.put o.dst (.pointer (some ⟨w.heap.size, 0, none⟩))) (w.alloc (.cells cells t))) : o.wp P a w K Q := by
  cases hi : P.info? t with
  | none => rw [hi] at hz; cases hz
  | some it =>
    rw [hi] at hz
    have hz' : it.zero = some (.agg cells) := hz
    unfold Oper.wp execOp
    simp [ho, Instr.alloc, zeroValue, typeInfo, hi, hz', newVar, Value.cells, go_sem]
    exact h
theorem wpList_alloc_is {P : Program} {ops : Array Oper} {rest : List Oper} {o : Oper} {a : Act} {w : World} {Q : Exit → Act → World → Prop} (hg : o.guard = none) (t : TypeId) (ho : o.op = .alloc t)
    (cells : Array Value) (hz : (P.info? t).bind (·.zero) = some (.agg cells)) (h : wpList P ops Q rest (a.put o.dst (.pointer (some ⟨w.heap.size, 0, none⟩))) (w.alloc (.cells cells t))) : wpList P ops Q (o :: rest) a w :=
  wpList_plain hg fun _ hK => wp_alloc_is t ho cells hz (hK _ _ h)
theorem Try.zeroMt : (Try.prog.info? 77).bind (·.zero) = some (.agg (matchC 0 (.slice none 0 0) (fun _ => 0) (fun _ => 0) (fun _ => 0) (fun _ => false))) := by kernel_rfl
theorem Try.zeroLm : (Try.prog.info? 57).bind (·.zero) = some (.agg (loomC 0 (.slice none 0 0) (fun _ => 0) (fun _ => 0))) := by kernel_rfl
theorem Try.zeroAB : (Try.prog.info? 75).bind (·.zero) = some (.agg (arrB (fun _ => false))) := by kernel_rfl
theorem Try.zeroAU : (Try.prog.info? 54).bind (·.zero) = some (.agg (arrU (fun _ => 0))) := by kernel_rfl
end Go.Proofs.Ytkgkanmccaodfaa

/-
  Ticks for cores: the least of all sums of gaps and rooms; how many ticks can be given; tick by tick.
  Conditions: none.
-/
set_option linter.unusedVariables false
namespace Go.Proofs.Ytkgkanmccaodfaa

/-! ### Counts and sums -/
def cnF (p : Nat → Bool) : Nat → Nat
  | 0 => 0
  | n + 1 => cnF p n + (p n).toNat
theorem cnF_le {p q : Nat → Bool} : ∀ n : Nat, (∀ t, t < n → p t = true → q t = true) → cnF p n ≤ cnF q n
  | 0, _ => Nat.le_refl _
  | n + 1, h => by
    have h1 := cnF_le n fun t ht => h t (by omega)
    have h2 := h n (by omega)
    rw [cnF, cnF]
    cases hp : p n with
    | false => rw [Bool.toNat_false]; omega
    | true => rw [h2 hp]; omega
theorem cnF_congr {p q : Nat → Bool} : ∀ n : Nat, (∀ t, t < n → p t = q t) → cnF p n = cnF q n
  | 0, _ => rfl
  | n + 1, h => by rw [cnF, cnF, cnF_congr n fun t ht => h t (by omega), h n (by omega)]
theorem cnF_none {p : Nat → Bool} : ∀ n : Nat, (∀ t, t < n → p t = false) → cnF p n = 0
  | 0, _ => rfl
  | n + 1, h => by rw [cnF, cnF_none n fun t ht => h t (by omega), h n (by omega)]; rfl
theorem cnF_four {a b c d : Nat → Bool} : ∀ n : Nat, (∀ t, t < n → (a t).toNat + (b t).toNat ≤ (c t).toNat + (d t).toNat) → cnF a n + cnF b n ≤ cnF c n + cnF d n
  | 0, _ => Nat.le_refl _
  | n + 1, h => by
    have h1 := cnF_four n fun t ht => h t (by omega)
    have h2 := h n (by omega)
    rw [cnF, cnF, cnF, cnF]
    omega
theorem cnF_two {p q s : Nat → Bool} : ∀ n : Nat, (∀ t, t < n → (p t).toNat + (q t).toNat = (s t).toNat) → cnF p n + cnF q n = cnF s n
  | 0, _ => rfl
  | n + 1, h => by
    have h1 := cnF_two n fun t ht => h t (by omega)
    have h2 := h n (by omega)
    rw [cnF, cnF, cnF]
    omega
/-- One tick left out. -/
theorem cnF_one {p q : Nat → Bool} {k : Nat} : ∀ n : Nat, (∀ t, t < n → t ≠ k → p t = q t) → q k = false → k < n → cnF p n = cnF q n + (p k).toNat
  | 0, _, _, h => by omega
  | n + 1, h, hq, hk => by
    by_cases e : k = n
    · subst e
      rw [cnF, cnF, cnF_congr k fun t ht => h t (by omega) (by omega), hq, Bool.toNat_false]
      omega
    · have h1 := cnF_one n (fun t ht => h t (by omega)) hq (by omega)
      have h2 := h n (by omega) (fun e2 => e e2.symm)
      rw [cnF, cnF, h1, h2]
      omega
theorem smF_le {f g : Nat → Nat} : ∀ n : Nat, (∀ c, c < n → f c ≤ g c) → sumTo f n ≤ sumTo g n
  | 0, _ => Nat.le_refl _
  | n + 1, h => by
    have h1 := smF_le n fun t ht => h t (by omega)
    have h2 := h n (by omega)
    rw [sumTo, sumTo]
    omega
theorem smF_congr {f g : Nat → Nat} : ∀ n : Nat, (∀ c, c < n → f c = g c) → sumTo f n = sumTo g n
  | 0, _ => rfl
  | n + 1, h => by rw [sumTo, sumTo, smF_congr n fun t ht => h t (by omega), h n (by omega)]
theorem smF_four {a b c d : Nat → Nat} : ∀ n : Nat, (∀ t, t < n → a t + b t ≤ c t + d t) → sumTo a n + sumTo b n ≤ sumTo c n + sumTo d n
  | 0, _ => Nat.le_refl _
  | n + 1, h => by
    have h1 := smF_four n fun t ht => h t (by omega)
    have h2 := h n (by omega)
    rw [sumTo, sumTo, sumTo, sumTo]
    omega
theorem smF_one {f g : Nat → Nat} {k d : Nat} : ∀ n : Nat, (∀ c, c < n → c ≠ k → f c = g c) → f k = g k + d → k < n → sumTo f n = sumTo g n + d
  | 0, _, _, h => by omega
  | n + 1, h, hq, hk => by
    by_cases e : k = n
    · subst e
      rw [sumTo, sumTo, smF_congr k fun t ht => h t (by omega) (by omega), hq]
      omega
    · have h1 := smF_one n (fun t ht => h t (by omega)) hq (by omega)
      have h2 := h n (by omega) (fun e2 => e e2.symm)
      rw [sumTo, sumTo, h1, h2]
      omega

/-! ### Cuts -/
/-- Is the tick a gap of a core of the set? -/
def uniB (N : Nat) (g : Nat → Nat → Bool) (S : Nat → Bool) (t : Nat) : Bool := (List.range N).any fun c => S c && g c t
theorem uniB_iff {N : Nat} {g : Nat → Nat → Bool} {S : Nat → Bool} {t : Nat} : uniB N g S t = true ↔ ∃ c, c < N ∧ S c = true ∧ g c t = true := by
  unfold uniB
  rw [List.any_eq_true]
  constructor
  · rintro ⟨c, hc, h⟩
    rw [Bool.and_eq_true] at h
    exact ⟨c, List.mem_range.1 hc, h⟩
  · rintro ⟨c, hc, h⟩
    exact ⟨c, List.mem_range.2 hc, by rw [Bool.and_eq_true]; exact h⟩
def cutN (F N : Nat) (g : Nat → Nat → Bool) (r : Nat → Nat) (S : Nat → Bool) : Nat := cnF (uniB N g S) F + sumTo (fun c => if S c = true then 0 else r c) N
theorem bool_le {a b : Bool} (h : a = true → b = true) : a.toNat ≤ b.toNat := by
  cases a with
  | false => exact Nat.zero_le _
  | true => rw [h rfl]; exact Nat.le_refl _
/-- Cuts are submodular. -/
theorem cut_sub (F N : Nat) (g : Nat → Nat → Bool) (r : Nat → Nat) (S T : Nat → Bool) : cutN F N g r (fun c => S c && T c) + cutN F N g r (fun c => S c || T c) ≤ cutN F N g r S + cutN F N g r T := by
  have h1 : cnF (uniB N g fun c => S c && T c) F + cnF (uniB N g fun c => S c || T c) F ≤ cnF (uniB N g S) F + cnF (uniB N g T) F := by
    refine cnF_four F fun t _ => ?_
    cases hS : uniB N g S t with
    | true =>
      cases hT : uniB N g T t with
      | true =>
        have k1 := Bool.toNat_le (uniB N g (fun c => S c && T c) t)
        have k2 := Bool.toNat_le (uniB N g (fun c => S c || T c) t)
        rw [Bool.toNat_true]
        omega
      | false =>
        have k1 : uniB N g (fun c => S c && T c) t = false := by
          rw [← Bool.not_eq_true, uniB_iff]
          rintro ⟨c, h1, h2, h3⟩
          rw [Bool.and_eq_true] at h2
          have := uniB_iff.2 ⟨c, h1, h2.2, h3⟩
          rw [hT] at this
          cases this
        have k2 := Bool.toNat_le (uniB N g (fun c => S c || T c) t)
        rw [k1, Bool.toNat_true, Bool.toNat_false]
        omega
    | false =>
      have k1 : uniB N g (fun c => S c && T c) t = false := by
        rw [← Bool.not_eq_true, uniB_iff]
        rintro ⟨c, h1, h2, h3⟩
        rw [Bool.and_eq_true] at h2
        have := uniB_iff.2 ⟨c, h1, h2.1, h3⟩
        rw [hS] at this
        cases this
      have k2 : (uniB N g (fun c => S c || T c) t).toNat ≤ (uniB N g T t).toNat := bool_le fun h => by
        obtain ⟨c, h1, h2, h3⟩ := uniB_iff.1 h
        rw [Bool.or_eq_true] at h2
        rcases h2 with h2 | h2
        · have := uniB_iff.2 ⟨c, h1, h2, h3⟩
          rw [hS] at this
          cases this
        · exact uniB_iff.2 ⟨c, h1, h2, h3⟩
      rw [k1, Bool.toNat_false]
      omega
  have h2 : sumTo (fun c => if (S c && T c) = true then 0 else r c) N + sumTo (fun c => if (S c || T c) = true then 0 else r c) N ≤ sumTo (fun c => if S c = true then 0 else r c) N + sumTo (fun c => if T c = true then 0 else r c) N := by
    refine smF_four N fun c _ => ?_
    cases S c <;> cases T c <;> simp
  dsimp only [cutN]
  omega
/-- How many of a set. -/
def sizeS (N : Nat) (S : Nat → Bool) : Nat := cnF S N
/-- A least cut that is in all the others. -/
theorem cut_core {F N : Nat} {g : Nat → Nat → Bool} {r : Nat → Nat} {k : Nat} (h : ∀ S, k ≤ cutN F N g r S) (S0 : Nat → Bool) (h0 : cutN F N g r S0 = k) :
    ∃ S1, cutN F N g r S1 = k ∧ ∀ S, cutN F N g r S = k → ∀ c, c < N → S1 c = true → S c = true := by
  have key : ∀ d : Nat, ∀ S0, sizeS N S0 ≤ d → cutN F N g r S0 = k → ∃ S1, cutN F N g r S1 = k ∧ ∀ S, cutN F N g r S = k → ∀ c, c < N → S1 c = true → S c = true := by
    intro d
    induction d with
    | zero =>
      intro S0 hd h0
      refine ⟨S0, h0, fun S _ c hc hs => ?_⟩
      exfalso
      have : (S0 c).toNat ≤ sizeS N S0 := by
        have h1 := cnF_le (p := fun t => decide (t = c)) (q := S0) N fun t ht e => by have := of_decide_eq_true e; subst this; exact hs
        have h2 := cnF_one (p := fun t => decide (t = c)) (q := fun _ => false) (k := c) N (fun t _ hn => decide_eq_false hn) rfl hc
        rw [cnF_none N fun t _ => rfl] at h2
        simp only [decide_true, Bool.toNat_true] at h2
        rw [hs, Bool.toNat_true]
        unfold sizeS
        omega
      rw [hs, Bool.toNat_true] at this
      omega
    | succ d ih =>
      intro S0 hd h0
      by_cases ha : ∃ S, cutN F N g r S = k ∧ ∃ c, c < N ∧ S0 c = true ∧ S c = false
      · obtain ⟨S, hS, c, hc, h1, h2⟩ := ha
        have hsub := cut_sub F N g r S0 S
        have k1 := h fun c => S0 c && S c
        have k2 := h fun c => S0 c || S c
        refine ih (fun c => S0 c && S c) ?_ (by omega)
        have e1 := cnF_one (p := S0) (q := fun t => S0 t && decide (t ≠ c)) (k := c) N (fun t _ hn => by simp [hn]) (by simp) hc
        have e2 := cnF_le (p := fun t => S0 t && S t) (q := fun t => S0 t && decide (t ≠ c)) N fun t _ ht => by
          rw [Bool.and_eq_true] at ht ⊢
          refine ⟨ht.1, decide_eq_true fun e => ?_⟩
          rw [e, h2] at ht
          exact absurd ht.2 (by decide)
        rw [h1, Bool.toNat_true] at e1
        unfold sizeS at hd ⊢
        omega
      · refine ⟨S0, h0, fun S hS c hc hs => ?_⟩
        cases hv : S c with
        | true => rfl
        | false => exact absurd ⟨S, hS, c, hc, hs, hv⟩ ha
  exact key _ S0 (Nat.le_refl _) h0

/-! ### Tick by tick -/
/-- The gaps without a tick. -/
def lessG (g : Nat → Nat → Bool) (t : Nat) (c s : Nat) : Bool := g c s && decide (s ≠ t)
/-- The rooms with one tick less on a core. -/
def lessR (r : Nat → Nat) (c : Nat) (d : Nat) : Nat := if d = c then r d - 1 else r d
theorem cut_tick {F N : Nat} {g : Nat → Nat → Bool} {r : Nat → Nat} {t : Nat} (ht : t < F) (S : Nat → Bool) : cutN F N g r S = cutN F N (lessG g t) r S + (uniB N g S t).toNat := by
  have h : cnF (uniB N g S) F = cnF (uniB N (lessG g t) S) F + (uniB N g S t).toNat := by
    refine cnF_one F (fun s _ hs => ?_) ?_ ht
    · rw [Bool.eq_iff_iff, uniB_iff, uniB_iff]
      unfold lessG
      constructor
      · rintro ⟨c, h1, h2, h3⟩; exact ⟨c, h1, h2, by rw [h3, decide_eq_true hs]; rfl⟩
      · rintro ⟨c, h1, h2, h3⟩; rw [Bool.and_eq_true] at h3; exact ⟨c, h1, h2, h3.1⟩
    · rw [← Bool.not_eq_true, uniB_iff]
      rintro ⟨c, _, _, h3⟩
      unfold lessG at h3
      simp at h3
  unfold cutN
  omega
theorem cut_room {F N : Nat} {g : Nat → Nat → Bool} {r : Nat → Nat} {c : Nat} (hc : c < N) (h0 : 0 < r c) (S : Nat → Bool) : cutN F N g r S = cutN F N g (lessR r c) S + (!S c).toNat := by
  have h : sumTo (fun d => if S d = true then 0 else r d) N = sumTo (fun d => if S d = true then 0 else lessR r c d) N + (!S c).toNat := by
    refine smF_one N (fun d _ hd => ?_) ?_ hc
    · show (if S d = true then 0 else r d) = if S d = true then 0 else lessR r c d
      unfold lessR
      rw [if_neg hd]
    · show (if S c = true then 0 else r c) = (if S c = true then 0 else lessR r c c) + (!S c).toNat
      unfold lessR
      rw [if_pos rfl]
      cases S c with
      | true => rfl
      | false => simp; omega
  unfold cutN
  omega
/-- Of k + 1 ticks one can be given now, or all later. -/
theorem most_step {F N : Nat} {g : Nat → Nat → Bool} {r : Nat → Nat} {k t : Nat} (ht : t < F) (h : ∀ S, k + 1 ≤ cutN F N g r S) :
    (∀ S, k + 1 ≤ cutN F N (lessG g t) r S) ∨ ∃ c, c < N ∧ g c t = true ∧ 0 < r c ∧ ∀ S, k ≤ cutN F N (lessG g t) (lessR r c) S := by
  by_cases ha : ∀ S, k + 1 ≤ cutN F N (lessG g t) r S
  · exact .inl ha
  · right
    obtain ⟨S0, h0⟩ : ∃ S, ¬ k + 1 ≤ cutN F N (lessG g t) r S := Classical.not_forall.1 ha
    have hlow : ∀ S, k ≤ cutN F N (lessG g t) r S := fun S => by
      have h1 := h S
      have h2 := cut_tick (N := N) (g := g) (r := r) ht S
      have h3 := Bool.toNat_le (uniB N g S t)
      omega
    obtain ⟨S1, hS1, hall⟩ := cut_core hlow S0 (by have := hlow S0; omega)
    have hu : uniB N g S1 t = true := by
      have h1 := h S1
      have h2 := cut_tick (N := N) (g := g) (r := r) ht S1
      cases hb : uniB N g S1 t with
      | true => rfl
      | false => rw [hb, Bool.toNat_false] at h2; omega
    obtain ⟨c, hc, hs, hg⟩ := uniB_iff.1 hu
    have hr : 0 < r c := by
      rcases Nat.eq_zero_or_pos (r c) with hz | hp
      · exfalso
        have e1 : cutN F N (lessG g t) r (fun d => S1 d && decide (d ≠ c)) ≤ cutN F N (lessG g t) r S1 := by
          have k1 : cnF (uniB N (lessG g t) fun d => S1 d && decide (d ≠ c)) F ≤ cnF (uniB N (lessG g t) S1) F := cnF_le F fun s _ hx => by
            obtain ⟨d, h1, h2, h3⟩ := uniB_iff.1 hx
            rw [Bool.and_eq_true] at h2
            exact uniB_iff.2 ⟨d, h1, h2.1, h3⟩
          have k2 : sumTo (fun d => if (S1 d && decide (d ≠ c)) = true then 0 else r d) N ≤ sumTo (fun d => if S1 d = true then 0 else r d) N := smF_le N fun d _ => by
            by_cases hd : d = c
            · subst hd
              rw [hz]
              split <;> omega
            · show (if (S1 d && decide (d ≠ c)) = true then 0 else r d) ≤ if S1 d = true then 0 else r d
              rw [decide_eq_true hd, Bool.and_true]
              exact Nat.le_refl _
          dsimp only [cutN]
          omega
        have e2 := hlow fun d => S1 d && decide (d ≠ c)
        have e3 := hall (fun d => S1 d && decide (d ≠ c)) (by omega) c hc hs
        simp at e3
      · exact hp
    refine ⟨c, hc, hg, hr, fun S => ?_⟩
    have e1 := cut_room (F := F) (g := lessG g t) hc hr S
    have e2 := hlow S
    cases hv : S c with
    | true => rw [hv] at e1; simp only [Bool.not_true, Bool.toNat_false] at e1; omega
    | false =>
      rw [hv] at e1
      simp only [Bool.not_false, Bool.toNat_true] at e1
      have : cutN F N (lessG g t) r S ≠ k := fun e => by
        have := hall S e c hc hs
        rw [hv] at this
        cases this
      omega

/-! ### Ticks given to cores -/
structure Given (F N : Nat) (g : Nat → Nat → Bool) (r : Nat → Nat) (a : Nat → Option Nat) : Prop where
  gap : ∀ t c, t < F → a t = some c → c < N ∧ g c t = true
  room : ∀ c, c < N → cnF (fun t => a t == some c) F ≤ r c
def givenN (a : Nat → Option Nat) (F : Nat) : Nat := cnF (fun t => (a t).isSome) F
def inS (N : Nat) (a : Nat → Option Nat) (q : Nat → Bool) (t : Nat) : Bool := match a t with
  | some c => decide (c < N) && q c
  | none => false
/-- By cores. -/
theorem given_cores (a : Nat → Option Nat) (q : Nat → Bool) (F : Nat) : ∀ N : Nat, cnF (inS N a q) F = sumTo (fun c => if q c = true then cnF (fun t => a t == some c) F else 0) N
  | 0 => cnF_none F fun t _ => by unfold inS; split <;> simp
  | N + 1 => by
    rw [sumTo, ← given_cores a q F N]
    cases hq : q N with
    | false =>
      rw [if_neg (by decide), Nat.add_zero]
      refine cnF_congr F fun t _ => ?_
      unfold inS
      cases ha : a t with
      | none => rfl
      | some c =>
        show (decide (c < N + 1) && q c) = (decide (c < N) && q c)
        by_cases hc : c = N
        · rw [hc, hq, Bool.and_false, Bool.and_false]
        · rw [show decide (c < N + 1) = decide (c < N) from by rw [decide_eq_decide]; omega]
    | true =>
      rw [if_pos rfl]
      refine (cnF_two F fun t _ => ?_).symm
      unfold inS
      cases ha : a t with
      | none => rfl
      | some c =>
        show (decide (c < N) && q c).toNat + (some c == some N).toNat = (decide (c < N + 1) && q c).toNat
        by_cases hc : c = N
        · subst hc
          rw [hq]
          simp
        · rw [show decide (c < N + 1) = decide (c < N) from by rw [decide_eq_decide]; omega, show (some c == some N) = false from by simp [hc]]
          rfl
theorem given_parts {F N : Nat} {g : Nat → Nat → Bool} {r : Nat → Nat} {a : Nat → Option Nat} (h : Given F N g r a) (S : Nat → Bool) : cnF (inS N a S) F + cnF (inS N a fun c => !S c) F = givenN a F := by
  refine cnF_two F fun t ht => ?_
  unfold inS
  cases ha : a t with
  | none => rfl
  | some c =>
    obtain ⟨hc, _⟩ := h.gap t c ht ha
    show (decide (c < N) && S c).toNat + (decide (c < N) && !S c).toNat = (some c).isSome.toNat
    rw [decide_eq_true hc]
    cases S c <;> rfl
/-- No more than any cut. -/
theorem given_le {F N : Nat} {g : Nat → Nat → Bool} {r : Nat → Nat} {a : Nat → Option Nat} (h : Given F N g r a) (S : Nat → Bool) : givenN a F ≤ cutN F N g r S := by
  have h1 := given_parts h S
  have h2 : cnF (inS N a S) F ≤ cnF (uniB N g S) F := cnF_le F fun t ht hx => by
    unfold inS at hx
    cases ha : a t with
    | none => rw [ha] at hx; cases hx
    | some c =>
      rw [ha] at hx
      rw [Bool.and_eq_true] at hx
      obtain ⟨hc, hg⟩ := h.gap t c ht ha
      exact uniB_iff.2 ⟨c, hc, hx.2, hg⟩
  have h3 : cnF (inS N a fun c => !S c) F ≤ sumTo (fun c => if S c = true then 0 else r c) N := by
    rw [given_cores]
    refine smF_le N fun c hc => ?_
    have := h.room c hc
    cases S c with
    | true => exact Nat.le_refl _
    | false => exact this
  unfold cutN
  omega
/-- As many as a cut, where a set of full cores is closed. -/
theorem given_eq {F N : Nat} {g : Nat → Nat → Bool} {r : Nat → Nat} {a : Nat → Option Nat} (h : Given F N g r a) (R : Nat → Bool) (hfull : ∀ c, c < N → R c = true → cnF (fun t => a t == some c) F = r c)
    (hcl : ∀ t, t < F → (∀ c, a t = some c → R c = true) → ∀ c, c < N → g c t = true → R c = true) : givenN a F = cutN F N g r (fun c => !R c) := by
  have h1 := given_parts h fun c => !R c
  have h2 : cnF (inS N a fun c => !R c) F = cnF (uniB N g fun c => !R c) F := cnF_congr F fun t ht => by
    rw [Bool.eq_iff_iff, uniB_iff]
    constructor
    · intro hx
      unfold inS at hx
      cases ha : a t with
      | none => rw [ha] at hx; cases hx
      | some c =>
        rw [ha] at hx
        rw [Bool.and_eq_true] at hx
        obtain ⟨hc, hg⟩ := h.gap t c ht ha
        exact ⟨c, hc, hx.2, hg⟩
    · rintro ⟨c, hc, hn, hg⟩
      have hn' : R c = false := by simpa using hn
      unfold inS
      cases ha : a t with
      | none =>
        have := hcl t ht (fun d hd => by rw [ha] at hd; cases hd) c hc hg
        rw [hn'] at this
        cases this
      | some d =>
        obtain ⟨hd, _⟩ := h.gap t d ht ha
        show (decide (d < N) && !R d) = true
        rw [decide_eq_true hd]
        cases hv : R d with
        | false => rfl
        | true =>
          have := hcl t ht (fun e he => by rw [ha] at he; cases he; exact hv) c hc hg
          rw [hn'] at this
          cases this
  have h3 : cnF (inS N a fun c => !!R c) F = sumTo (fun c => if (!R c) = true then 0 else r c) N := by
    rw [given_cores]
    refine smF_congr N fun c hc => ?_
    cases hv : R c with
    | true => exact hfull c hc hv
    | false => rfl
  dsimp only [cutN] at h1 h2 h3 ⊢
  omega
/-- How many ticks there are: the least cut. -/
structure IsMost (F N : Nat) (g : Nat → Nat → Bool) (r : Nat → Nat) (k : Nat) : Prop where
  low : ∀ S, k ≤ cutN F N g r S
  is : ∃ S, cutN F N g r S = k
theorem IsMost.unique {F N : Nat} {g : Nat → Nat → Bool} {r : Nat → Nat} {k j : Nat} (h : IsMost F N g r k) (h' : IsMost F N g r j) : k = j := by
  obtain ⟨S, hS⟩ := h.is
  obtain ⟨T, hT⟩ := h'.is
  have h1 := h.low T
  have h2 := h'.low S
  omega
theorem given_most {F N : Nat} {g : Nat → Nat → Bool} {r : Nat → Nat} {a : Nat → Option Nat} (h : Given F N g r a) (R : Nat → Bool) (hfull : ∀ c, c < N → R c = true → cnF (fun t => a t == some c) F = r c)
    (hcl : ∀ t, t < F → (∀ c, a t = some c → R c = true) → ∀ c, c < N → g c t = true → R c = true) : IsMost F N g r (givenN a F) := ⟨given_le h, _, (given_eq h R hfull hcl).symm⟩
end Go.Proofs.Ytkgkanmccaodfaa

/-
  A set that is turned; ticks from one on, round: what the program answers.
  Conditions: the numbers are of their kinds.
-/
set_option linter.unusedVariables false
namespace Go.Proofs.Ytkgkanmccaodfaa
open Go.RowKit

/-- Where a tick comes from. -/
def srcN (f l j : Nat) : Nat := if l ≤ j then j - l else j + f - l
def turnN (f m l : Nat) : Nat := setP (fun j => decide (j < f) && m.testBit (srcN f l j))

theorem turn_zero (m l : Nat) : turnN 0 m l = 0 := setP_zero (fun j _ => by simp)

theorem turn_word (f m l d : Nat) (hm : m < 18446744073709551616) (hf : f ≤ 64) (hl : l < f) (hd : l + d = f) :
    ((m &&& allN f) * 2 ^ l % 18446744073709551616 ||| (m &&& allN f) / 2 ^ d) &&& allN f = turnN f m l := by
  have hb : (((m &&& allN f) * 2 ^ l % 18446744073709551616 ||| (m &&& allN f) / 2 ^ d) &&& allN f) < 18446744073709551616 := Nat.lt_of_le_of_lt Nat.and_le_right (allN_lt hf)
  refine eq_setP hb (fun j hj => ?_)
  have e : ∀ x, x % 18446744073709551616 = x % 2 ^ 64 := fun x => by rw [two64]
  rw [Nat.testBit_and, Nat.testBit_or, e, Nat.testBit_mod_two_pow, Nat.testBit_mul_two_pow, Nat.testBit_div_two_pow, Nat.testBit_and, Nat.testBit_and, allN_bit, allN_bit, allN_bit]
  unfold srcN
  by_cases h1 : j < f
  · by_cases h2 : l ≤ j
    · have h3 : ¬ j + d < f := by omega
      have h4 : j - l < f := by omega
      simp [h1, h2, h3, h4, hj]
    · have h3 : j + d < f := by omega
      have h5 : j + f - l = j + d := by omega
      simp [h1, h2, h3, hj, h5]
  · simp [h1]

theorem shl_nat (m l : Nat) : IntKind.u64.wrap ((m : Int) * 2 ^ l) = ((m * 2 ^ l % 18446744073709551616 : Nat) : Int) := by
  rw [show ((m : Int) * 2 ^ l) = ((m * 2 ^ l : Nat) : Int) by simp]
  generalize m * 2 ^ l = x
  rw [IntKind.wrap_u64]
  omega
theorem shr_nat (m d : Nat) : ((m : Int) / 2 ^ d) = ((m / 2 ^ d : Nat) : Int) := by simp
theorem turn_int (f m1 l d al r : Nat) (hm1 : m1 < 18446744073709551616) (ha : al < 18446744073709551616) (h : (m1 * 2 ^ l % 18446744073709551616 ||| m1 / 2 ^ d) &&& al = r) :
    bits BinOp.and IntKind.u64 (bits BinOp.or IntKind.u64 (IntKind.u64.wrap ((m1 : Int) * 2 ^ l)) ((m1 : Int) / 2 ^ d)) (al : Int) = (r : Int) := by
  have h1 : m1 * 2 ^ l % 18446744073709551616 < 18446744073709551616 := Nat.mod_lt _ (by decide)
  have h2 : m1 / 2 ^ d < 18446744073709551616 := Nat.lt_of_le_of_lt (Nat.div_le_self _ _) hm1
  have h3 : (m1 * 2 ^ l % 18446744073709551616 ||| m1 / 2 ^ d) < 18446744073709551616 := by
    rw [← two64] at h1 h2 ⊢
    exact Nat.or_lt_two_pow h1 h2
  rw [shl_nat, shr_nat, bits_or_u64_nat _ _ h1 h2, bits_and_u64_nat _ _ h3 ha, h]

/-- n ticks from l on, round. -/
def roundN (f n l : Nat) : Nat := setP (fun j => decide (j < f) && decide (srcN f l j < n))
theorem turn_all (f n l : Nat) : turnN f (allN n) l = roundN f n l := setP_congr (fun j _ => by rw [allN_bit])
end Go.Proofs.Ytkgkanmccaodfaa

/-
  A set that is turned; ticks from one on, round; all ticks: the document's plain answers.
  Conditions: the numbers are of their kinds.
-/
set_option linter.unusedVariables false
namespace Go.Proofs.Ytkgkanmccaodfaa
open Go.RowKit

set_option maxHeartbeats 1000000 in
theorem frame_any (f : Int) (w : World) : Calls Try.prog 54 #[.int .i64 f] w (Ret (.int .i64 (frN f)) w) := by
  go_enter Try.func54, Try.ntmps54
  go_wp2
  all_goals
    go_ret
    exact ⟨ret_int (by unfold frN; omega), rfl⟩

theorem allN_succ {i : Nat} (hi : i < 64) : withI (allN i) (i : Int) = allN (i + 1) := by
  rw [withI_nat hi]
  refine eq_of_bits (withN_lt (allN_lt (by omega)) hi) (allN_lt hi) (fun j _ => ?_)
  rw [withN_bit, allN_bit, allN_bit]
  by_cases h : i = j
  · subst h; simp
  · have : decide (j < i + 1) = decide (j < i) := by simp; omega
    simp [h, this]

def AllRel (f : Nat) (s i : Value) : Prop := ∃ k : Nat, k ≤ f ∧ i = .int .i64 k ∧ s = .int .u64 (allN k)

set_option maxHeartbeats 1000000 in
theorem refAll_any (F : Int) (w : World) : Calls Try.prog 33 #[.int .i64 F] w (Ret (.int .u64 (allN (frN F))) w) := by
  have HF := Lib.hid (fun W => frame_any F W)
  have hf := frN_le F
  generalize frN F = f at *
  go_enter Try.func33, Try.ntmps33
  go_wp2
  go_loop [3, 4] (fun s i => AllRel f s i) (fun _ i => f - (intOf i).toNat)
  case atStart => exact ⟨0, Nat.zero_le _, rfl, rfl⟩
  case round =>
    obtain ⟨k, hk, rfl, rfl⟩ := hrel
    by_cases hlt : k < f
    · have HW := Lib.hid (fun W => with_any (allN k) (k : Int) W (allN_lt (by omega)))
      rw [allN_succ (by omega)] at HW
      generalize hx : allN (k + 1) = x at *
      have HX := Lib.hid hx
      clear hx
      generalize allN k = y at *
      go_wp2_with (first | (go_at_call 54; refine (HF.out _).mono ?_; rintro e w' ⟨rfl, rfl⟩) | (go_at_call 31; refine (HW.out _).mono ?_; rintro e w' ⟨rfl, rfl⟩))
      go_round
      case rel => exact ⟨k + 1, by omega, by go_num, by rw [HX.out]⟩
      case measure => simp [intOf]; omega
    · have hkf : k = f := by omega
      subst hkf
      go_wp2_with (go_at_call 54; refine (HF.out _).mono ?_; rintro e w' ⟨rfl, rfl⟩)
      go_ret
      exact ⟨rfl, rfl⟩

theorem laterN_eq {f l i : Nat} (hl : l < f) (hi : i < f) : laterN f l i = if i + l < f then i + l else i + l - f := by
  unfold laterN
  split
  · exact Nat.mod_eq_of_lt ‹_›
  · rw [Nat.mod_eq_sub_mod (by omega), Nat.mod_eq_of_lt (by omega)]
theorem later_lt {f l i : Nat} (hl : l < f) (hi : i < f) : laterN f l i < f := by
  rw [laterN_eq hl hi]; split <;> omega
theorem later_src {f l i j : Nat} (hl : l < f) (hi : i < f) : laterN f l i = j ↔ j < f ∧ srcN f l j = i := by
  rw [laterN_eq hl hi]
  unfold srcN
  split <;> split <;> omega
theorem src_lt {f l j : Nat} (hl : l < f) (hj : j < f) : srcN f l j < f := by
  unfold srcN
  split <;> omega

def turnS (f m l i : Nat) : Nat := setP (fun j => decide (j < f) && m.testBit (srcN f l j) && decide (srcN f l j < i))
theorem turnS_zero (f m l : Nat) : turnS f m l 0 = 0 := setP_zero (fun j _ => by simp)
theorem turnS_all (f m l : Nat) (hl : l < f) : turnS f m l f = turnN f m l := setP_congr (fun j _ => by
  by_cases hj : j < f
  · have := src_lt hl hj
    simp [hj, this]
  · simp [hj])
theorem turnS_yes {f m l i : Nat} (hl : l < f) (hi : i < f) (hf : f ≤ 64) (hb : m.testBit i = true) : withI (turnS f m l i) (laterN f l i : Int) = turnS f m l (i + 1) := by
  have hlt := later_lt hl hi
  rw [withI_nat (by omega)]
  unfold turnS
  rw [withN_setP _ (by omega)]
  apply setP_congr
  intro j _
  have e := later_src (j := j) hl hi
  by_cases hs : j < f ∧ srcN f l j = i
  · have h1 := e.2 hs
    simp [h1, hs.1, hs.2, hb]
  · have h1 : ¬ laterN f l i = j := fun h => hs (e.1 h)
    by_cases hj : j < f
    · have : srcN f l j ≠ i := fun h => hs ⟨hj, h⟩
      have d : decide (srcN f l j < i + 1) = decide (srcN f l j < i) := by simp; omega
      simp [h1, d]
    · simp [h1, hj]
theorem turnS_no {f m l i : Nat} (hb : m.testBit i = false) : turnS f m l i = turnS f m l (i + 1) := setP_congr (fun j _ => by
  by_cases h : srcN f l j = i
  · rw [h, hb]; simp
  · have d : decide (srcN f l j < i + 1) = decide (srcN f l j < i) := by simp; omega
    rw [d])
theorem turnS_lt (f m l i : Nat) : turnS f m l i < 18446744073709551616 := setP_lt _

def TurnRel (f m l : Nat) (s i : Value) : Prop := ∃ k : Nat, k ≤ f ∧ i = .int .i64 k ∧ s = .int .u64 (turnS f m l k)

theorem round_zero (f l : Nat) : roundN f 0 l = 0 := setP_zero (fun j _ => by simp)
theorem round_full {f l n k : Nat} (hl : l < f) (hk : f ≤ k) (hn : f ≤ n) : roundN f k l = roundN f n l := setP_congr (fun j _ => by
  by_cases hj : j < f
  · have := src_lt hl hj
    have h1 : srcN f l j < k := by omega
    have h2 : srcN f l j < n := by omega
    simp [h1, h2]
  · simp [hj])
theorem round_none (n l : Nat) : roundN 0 n l = 0 := setP_zero (fun j _ => by simp)
theorem round_yes {f l i : Nat} (hl : l < f) (hi : i < f) (hf : f ≤ 64) : withI (roundN f i l) (laterN f l i : Int) = roundN f (i + 1) l := by
  have hlt := later_lt hl hi
  rw [withI_nat (by omega)]
  unfold roundN
  rw [withN_setP _ (by omega)]
  apply setP_congr
  intro j _
  have e := later_src (j := j) hl hi
  by_cases hs : j < f ∧ srcN f l j = i
  · have h1 := e.2 hs
    simp [h1, hs.1, hs.2]
  · have h1 : ¬ laterN f l i = j := fun h => hs (e.1 h)
    by_cases hj : j < f
    · have : srcN f l j ≠ i := fun h => hs ⟨hj, h⟩
      have d : decide (srcN f l j < i + 1) = decide (srcN f l j < i) := by simp; omega
      simp [h1, d]
    · simp [h1, hj]
theorem round_lt (f n l : Nat) : roundN f n l < 18446744073709551616 := setP_lt _

def RoundRel (f l : Nat) (n : Int) (s i : Value) : Prop := ∃ k : Nat, k ≤ f ∧ ((k : Int) ≤ n ∨ k = 0) ∧ i = .int .i64 k ∧ s = .int .u64 (roundN f k l)
end Go.Proofs.Ytkgkanmccaodfaa

/-
  Numbers alone: ticks that are given out one behind the other, round.
  Conditions: those that each statement lists.
-/
set_option linter.unusedVariables false
namespace Go.Proofs.Ytkgkanmccaodfaa

theorem cntT_with {m t : Nat} (h : m.testBit t = false) : ∀ k, cntT (withN m t) k = cntT m k + (decide (t < k)).toNat
  | 0 => by simp [cntT_zero]
  | k + 1 => by
    rw [cntT_succ, cntT_succ, cntT_with h k, withN_bit]
    by_cases e : t = k
    · subst e
      simp [h]
    · have : decide (t < k + 1) = decide (t < k) := decide_eq_decide.2 (by omega)
      rw [this]
      simp [e]
      omega
theorem cnt_with {m t : Nat} (h : m.testBit t = false) (ht : t < 64) : cnt (withN m t) = cnt m + 1 := by
  unfold cnt
  rw [cntT_with h, decide_eq_true ht]
  rfl
theorem cnt_zero : cnt 0 = 0 := cntT_zero_of (fun j _ => Nat.zero_testBit j)

theorem round_bit (f n l j : Nat) (hf : f ≤ 64) : (roundN f n l).testBit j = (decide (j < f) && decide (srcN f l j < n)) := by
  unfold roundN
  rw [setP_bit]
  by_cases hj : j < f
  · have : j < 64 := by omega
    simp [this]
  · simp [hj]
theorem cnt_round {f l : Nat} (hl : l < f) (hf : f ≤ 64) : ∀ n, n ≤ f → cnt (roundN f n l) = n
  | 0, _ => by rw [round_zero, cnt_zero]
  | n + 1, h => by
    have ih := cnt_round hl hf n (by omega)
    have hi : n < f := by omega
    have hlt := later_lt hl hi
    have hb : (roundN f n l).testBit (laterN f l n) = false := by
      rw [round_bit f n l _ hf, ((later_src hl hi).1 rfl).2]
      simp
    rw [← round_yes hl hi hf, withI_nat (by omega), cnt_with hb (by omega), ih]

theorem modN_add {a : Int} {f u : Nat} (h : 0 < f) : modN (a + u) f = (modN a f + u) % f := by
  have h1 := modN_cast (n := a) h
  have h2 := modN_cast (n := a + u) h
  have : ((modN (a + u) f : Nat) : Int) = (((modN a f + u) % f : Nat) : Int) := by
    rw [h2, Int.natCast_emod, Int.natCast_add, h1, Int.emod_add_emod]
  omega
theorem modN_tmod (a : Int) {f : Nat} (h : 0 < f) : modN (a.tmod f) f = modN a f := by
  have h2 := modN_cast (n := a.tmod f) h
  have hl := modN_lt (n := a) h
  have e : (a.tmod f) % (f : Int) = modN a f := by
    rcases tmod_cases a h with ⟨h3, h4⟩ | ⟨h3, h4⟩
    · rw [h4]; exact Int.emod_eq_of_lt (by omega) (by omega)
    · rw [← Int.add_emod_right, h4]; exact Int.emod_eq_of_lt (by omega) (by omega)
  omega
theorem src_cases (f l j : Nat) : (l ≤ j ∧ srcN f l j = j - l) ∨ (j < l ∧ srcN f l j = j + f - l) := by
  unfold srcN
  split <;> omega
theorem src_add {f l u j : Nat} (hl : l < f) (hu : u ≤ f) (hj : j < f) : srcN f ((l + u) % f) j = if u ≤ srcN f l j then srcN f l j - u else srcN f l j + f - u := by
  have hv : (l + u < f ∧ (l + u) % f = l + u) ∨ (f ≤ l + u ∧ (l + u) % f = l + u - f) := by
    rcases Nat.lt_or_ge (l + u) f with h | h
    · exact .inl ⟨h, Nat.mod_eq_of_lt h⟩
    · exact .inr ⟨h, by rw [Nat.mod_eq_sub_mod h, Nat.mod_eq_of_lt (by omega)]⟩
  generalize (l + u) % f = v at *
  have h1 := src_cases f l j
  have h2 := src_cases f v j
  generalize srcN f l j = s at *
  generalize srcN f v j = x at *
  split <;> omega

/-- Given out behind what was given. -/
structure ApartT (f l u n : Nat) : Prop where
  meet : roundN f n ((l + u) % f) &&& roundN f u l = 0
  join : roundN f u l ||| roundN f n ((l + u) % f) = roundN f (u + n) l
  count : cnt (roundN f n ((l + u) % f)) = n
  inside : lessN (roundN f n ((l + u) % f)) (allN f) = 0
theorem apart_of {f l u n : Nat} (hl : l < f) (hf : f ≤ 64) (h : u + n ≤ f) : ApartT f l u n := by
  have hl2 : (l + u) % f < f := Nat.mod_lt _ (by omega)
  have key : ∀ j, j < f → (srcN f ((l + u) % f) j < n ↔ u ≤ srcN f l j ∧ srcN f l j < u + n) := by
    intro j hj
    rw [src_add hl (by omega) hj]
    have := src_lt hl hj
    split <;> omega
  refine ⟨?_, ?_, cnt_round hl2 hf n (by omega), ?_⟩
  · refine eq_of_bits (Nat.lt_of_le_of_lt Nat.and_le_left (round_lt _ _ _)) (by decide) (fun j hj => ?_)
    rw [Nat.testBit_and, round_bit _ _ _ _ hf, round_bit _ _ _ _ hf, Nat.zero_testBit]
    by_cases h1 : j < f
    · by_cases h2 : srcN f ((l + u) % f) j < n
      · have := ((key j h1).1 h2).1
        have h3 : ¬ srcN f l j < u := by omega
        simp [h3]
      · simp [h2]
    · simp [h1]
  · have hlt : roundN f u l ||| roundN f n ((l + u) % f) < 18446744073709551616 := by
      have a := round_lt f u l
      have b := round_lt f n ((l + u) % f)
      rw [← two64] at a b ⊢
      exact Nat.or_lt_two_pow a b
    refine eq_of_bits hlt (round_lt _ _ _) (fun j hj => ?_)
    rw [Nat.testBit_or, round_bit _ _ _ _ hf, round_bit _ _ _ _ hf, round_bit _ _ _ _ hf]
    by_cases h1 : j < f
    · have e : decide (srcN f ((l + u) % f) j < n) = decide (u ≤ srcN f l j ∧ srcN f l j < u + n) := decide_eq_decide.2 (key j h1)
      rw [e]
      simp only [h1, decide_true, Bool.true_and]
      rw [← Bool.decide_or]
      exact decide_eq_decide.2 (by omega)
    · simp [h1]
  · refine setP_zero (fun j hj => ?_)
    rw [round_bit _ _ _ _ hf, allN_bit]
    by_cases h1 : j < f <;> simp [h1]
end Go.Proofs.Ytkgkanmccaodfaa
