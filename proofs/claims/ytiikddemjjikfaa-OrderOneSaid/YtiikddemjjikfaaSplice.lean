/-
  Cells written into a row; copy of elements of several cells; the row that an insertion leaves.
  Conditions: those of each law.
-/
import Derived.Test.YtiikddemjjikfaaOrderMath
import Derived.Test.YtiikddemjjikfaaDelete
import Derived.Laws.CopyRow
set_option linter.unusedVariables false
namespace Go.Proofs.Ytiikddemjjikfaa
open Go.RowKit

def splice (l : List Value) (o : Nat) (cs : List Value) : List Value := l.take o ++ cs ++ l.drop (o + cs.length)
theorem splice_length {l cs : List Value} {o : Nat} (h : o + cs.length ≤ l.length) : (splice l o cs).length = l.length := by simp [splice]; omega
theorem splice_get {l cs : List Value} {o : Nat} (h : o + cs.length ≤ l.length) (j : Nat) : (splice l o cs)[j]? = if o ≤ j ∧ j < o + cs.length then cs[j - o]? else l[j]? := by
  unfold splice
  rw [List.append_assoc]
  by_cases h1 : j < o
  · rw [if_neg (by omega), List.getElem?_append_left (by rw [List.length_take]; omega), List.getElem?_take_of_lt h1]
  · rw [List.getElem?_append_right (by rw [List.length_take]; omega), List.length_take, Nat.min_eq_left (by omega)]
    by_cases h2 : j < o + cs.length
    · rw [if_pos ⟨by omega, h2⟩, List.getElem?_append_left (by omega)]
    · rw [if_neg (by omega), List.getElem?_append_right (by omega), List.getElem?_drop]
      congr 1
      omega

theorem run_copy_k {P : Program} (w : World) (dT sT ty elem : TypeId) (k g o dLen dCap : Nat) (a : Addr) (sLen sCap : Nat) (cur : Array Value) (t : TypeId) (cs : List Value)
    (hu : P.underlying dT = some (.slice elem)) (hs : (P.info? elem).map (·.size) = some k)
    (hg : w.heap[g]? = some (.cells cur t (0, 0))) (hn : cs.length = Nat.min sLen dLen * k)
    (hsrc : ∀ j v, cs[j]? = some v → w.cell? (a.add j) = some v) (hfit : o + cs.length ≤ cur.size) (h1 : ∀ v ∈ cs, v.oneCell' = true) :
    (Builtin.copy_ #[dT, sT] ty #[.slice (some ⟨g, o, none⟩) dLen dCap, .slice (some a) sLen sCap]).run P w =
      .ok (goInt (Nat.min sLen dLen)) (w.setRow g (splice cur.toList o cs).toArray) := by
  have hl := run_firstCells_some (P := P) (w := w) k (Nat.min sLen dLen) a sLen sCap cs hn hsrc
  have hst := run_storeCells_at P g o t cs 0 cur w hg (by simpa using hfit) h1
  cases hq : P.info? elem with
  | none => simp [hq] at hs
  | some i =>
    have hi : i.size = k := by simpa [hq] using hs
    simp only [Nat.add_zero] at hst
    simp [Builtin.copy_, run_underlying hu, Builtin.lenOf, sizeOf, typeInfo, hq, hi, hl, hst, splice]

theorem spansCells_drop : ∀ (ps : List Sp) (i : Nat), (spansCells ps).drop (i * 2) = spansCells (ps.drop i)
  | [], i => by simp [spansCells]
  | p :: ps, 0 => by simp [spansCells]
  | p :: ps, i + 1 => by
    rw [spansCells_cons, show (i + 1) * 2 = i * 2 + 1 + 1 by omega, List.drop_succ_cons, List.drop_succ_cons, spansCells_drop ps i, List.drop_succ_cons]
/-- The row with one more. -/
theorem ins_cells (ps : List Sp) (k : Nat) (x : Sp) : spansCells (ps.take k ++ [x] ++ ps.drop k) = (spansCells ps).take (k * 2) ++ [.int .i64 x.1, .int .i64 x.2] ++ (spansCells ps).drop (k * 2) := by
  rw [spansCells_append, spansCells_append, spansCells_take, spansCells_drop]
  rfl
theorem ins_get {S : List Value} {n k : Nat} (u1 u2 : Value) (hS : S.length = n * 2) (hk : k ≤ n) (j : Nat) :
    (S.take (k * 2) ++ [u1, u2] ++ S.drop (k * 2))[j]? = if j < k * 2 then S[j]? else if j < k * 2 + 2 then [u1, u2][j - k * 2]? else S[j - 2]? := by
  rw [List.append_assoc]
  by_cases h1 : j < k * 2
  · rw [if_pos h1, List.getElem?_append_left (by rw [List.length_take]; omega), List.getElem?_take_of_lt h1]
  · rw [if_neg h1, List.getElem?_append_right (by rw [List.length_take]; omega), List.length_take, Nat.min_eq_left (by omega)]
    by_cases h2 : j < k * 2 + 2
    · rw [if_pos h2, List.getElem?_append_left (by simp; omega)]
    · rw [if_neg h2, List.getElem?_append_right (by simp; omega), List.getElem?_drop]
      congr 1
      simp
      omega
theorem ins_shift {l S : List Value} {n k : Nat} (u1 u2 : Value) (hS : S.length = n * 2) (hk : k < n) (hl : (n + 1) * 2 ≤ l.length) (hp : l.take (n * 2) = S) :
    (splice (splice l ((k + 1) * 2) (S.drop (k * 2))) (k * 2) [u1, u2]).take ((n + 1) * 2) = S.take (k * 2) ++ [u1, u2] ++ S.drop (k * 2) := by
  have hd : (S.drop (k * 2)).length = n * 2 - k * 2 := by rw [List.length_drop, hS]
  apply List.ext_getElem?
  intro j
  rw [ins_get u1 u2 hS (by omega)]
  by_cases hj : j < (n + 1) * 2
  · rw [List.getElem?_take_of_lt hj, splice_get (by rw [splice_length (by rw [hd]; omega)]; simp; omega), splice_get (by rw [hd]; omega)]
    simp only [List.length_cons, List.length_nil]
    by_cases h1 : j < k * 2
    · rw [if_neg (by omega), if_neg (by omega), if_pos h1, ← hp, List.getElem?_take_of_lt (by omega)]
    · by_cases h2 : j < k * 2 + 2
      · rw [if_pos (by omega), if_neg h1, if_pos h2]
      · rw [if_neg (by omega), if_pos (by rw [hd]; omega), if_neg h1, if_neg h2, List.getElem?_drop]
        congr 1
        omega
  · rw [List.getElem?_take_eq_none (by omega), if_neg (by omega), if_neg (by omega), List.getElem?_eq_none (by omega)]
theorem ins_grow {l S : List Value} {n k : Nat} (u1 u2 : Value) (hS : S.length = n * 2) (hk : k < n) (hl : (n + 1) * 2 ≤ l.length) (hp : l.take (k * 2) = S.take (k * 2)) :
    (splice (splice l (k * 2) [u1, u2]) ((k + 1) * 2) (S.drop (k * 2))).take ((n + 1) * 2) = S.take (k * 2) ++ [u1, u2] ++ S.drop (k * 2) := by
  have hd : (S.drop (k * 2)).length = n * 2 - k * 2 := by rw [List.length_drop, hS]
  apply List.ext_getElem?
  intro j
  rw [ins_get u1 u2 hS (by omega)]
  by_cases hj : j < (n + 1) * 2
  · rw [List.getElem?_take_of_lt hj, splice_get (by rw [splice_length (by simp; omega), hd]; omega), splice_get (by simp; omega)]
    simp only [List.length_cons, List.length_nil]
    by_cases h1 : j < k * 2
    · rw [if_neg (by omega), if_neg (by omega), if_pos h1, ← List.getElem?_take_of_lt (l := l) h1, hp, List.getElem?_take_of_lt h1]
    · by_cases h2 : j < k * 2 + 2
      · rw [if_neg (by omega), if_pos (by omega), if_neg h1, if_pos h2]
      · rw [if_pos (by rw [hd]; omega), if_neg h1, if_neg h2, List.getElem?_drop]
        congr 1
        omega
  · rw [List.getElem?_take_eq_none (by omega), if_neg (by omega), if_neg (by omega), List.getElem?_eq_none (by omega)]

theorem setRow_block {w : World} {g k : Nat} {cs : Array Value} (h : k ≠ g) : (w.setRow g cs).heap[k]? = w.heap[k]? := by
  unfold World.setRow
  show (w.heap.modify g _)[k]? = _
  rw [Array.getElem?_modify, if_neg (fun e => h e.symm)]
theorem setRow_size {w : World} {g : Nat} {cs : Array Value} : (w.setRow g cs).heap.size = w.heap.size := by simp [World.setRow]
theorem below_setRow {B : Nat} {a w : World} {g : Nat} {cs : Array Value} (h : Below B a w) (hg : B ≤ g) : Below B a (w.setRow g cs) :=
  h.trans ⟨rfl, rfl, rfl, by rw [setRow_size]; exact Nat.le_refl _, fun k hk => setRow_block (by omega)⟩
end Go.Proofs.Ytiikddemjjikfaa
