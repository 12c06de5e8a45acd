/-
  Wants as lists of pairs: which is ahead, one put in its place, all sorted, totals, checks.
  Conditions: none.
-/
import Derived.Test.YtpjmdnhoiobedaaSpans
set_option linter.unusedVariables false
namespace Go.Proofs.Ytpjmdnhoiobedaa

/-- One want precedes another. -/
def aheadB (a b : Sp) : Bool := decide (b.2 < a.2) || (decide (a.2 = b.2) && decide (a.1 < b.1))
theorem ahead_iff (a b : Sp) : aheadB a b = true ↔ b.2 < a.2 ∨ (a.2 = b.2 ∧ a.1 < b.1) := by simp [aheadB]
theorem ahead_no (a b : Sp) : aheadB a b = false ↔ ¬ (b.2 < a.2 ∨ (a.2 = b.2 ∧ a.1 < b.1)) := by rw [← ahead_iff]; simp
theorem ahead_irr (a : Sp) : aheadB a a = false := by rw [ahead_no]; omega
theorem ahead_asym {a b : Sp} (h : aheadB a b = true) : aheadB b a = false := by rw [ahead_iff] at h; rw [ahead_no]; omega
theorem ahead_trans {a b c : Sp} (h : aheadB a b = true) (h2 : aheadB b c = true) : aheadB a c = true := by rw [ahead_iff] at *; omega
theorem ahead_trans_no {a b c : Sp} (h : aheadB b a = false) (h2 : aheadB c b = false) : aheadB c a = false := by rw [ahead_no] at *; omega
theorem ahead_eq {a b : Sp} (h : aheadB a b = false) (h2 : aheadB b a = false) : a = b := by
  rw [ahead_no] at *
  exact Prod.ext (by omega) (by omega)
theorem ahead_one {a b : Sp} (h : a ≠ b) : aheadB a b = !aheadB b a := by
  cases h1 : aheadB a b <;> cases h2 : aheadB b a <;> simp
  · exact h (ahead_eq h1 h2)
  · rw [ahead_asym h1] at h2; cases h2

/-- In order: none stands behind one that it precedes. -/
def SortedS (l : List Sp) : Prop := l.Pairwise fun x y => aheadB y x = false
def putT (w : Sp) : List Sp → List Sp
  | [] => [w]
  | x :: r => if aheadB w x then w :: x :: r else x :: putT w r
def sortT (l : List Sp) : List Sp := l.foldl (fun s w => putT w s) []
theorem putT_perm (w : Sp) : ∀ l : List Sp, (putT w l).Perm (w :: l)
  | [] => List.Perm.refl _
  | x :: r => by
    unfold putT
    split
    · exact List.Perm.refl _
    · exact ((putT_perm w r).cons x).trans (List.Perm.swap w x r)
theorem putT_length (w : Sp) (l : List Sp) : (putT w l).length = l.length + 1 := (putT_perm w l).length_eq
theorem putT_sorted (w : Sp) : ∀ {l : List Sp}, SortedS l → SortedS (putT w l)
  | [], _ => List.pairwise_singleton _ _
  | x :: r, h => by
    obtain ⟨h1, h2⟩ := List.pairwise_cons.1 h
    unfold putT
    split
    · rename_i hw
      refine List.pairwise_cons.2 ⟨fun y hy => ?_, h⟩
      rcases List.mem_cons.1 hy with rfl | hy
      · exact ahead_asym hw
      · exact ahead_trans_no (ahead_asym hw) (h1 y hy)
    · rename_i hw
      refine List.pairwise_cons.2 ⟨fun y hy => ?_, putT_sorted w h2⟩
      rcases List.mem_cons.1 ((putT_perm w r).mem_iff.1 hy) with rfl | hy
      · simpa using hw
      · exact h1 y hy
theorem fold_perm : ∀ (l s : List Sp), (l.foldl (fun s w => putT w s) s).Perm (s ++ l)
  | [], s => by simp
  | w :: l, s => by
    rw [List.foldl_cons]
    refine (fold_perm l (putT w s)).trans (((putT_perm w s).append_right l).trans ?_)
    exact (List.perm_middle (a := w) (l₁ := s) (l₂ := l)).symm
theorem fold_sorted : ∀ (l : List Sp) {s : List Sp}, SortedS s → SortedS (l.foldl (fun s w => putT w s) s)
  | [], _, h => h
  | w :: l, _, h => by rw [List.foldl_cons]; exact fold_sorted l (putT_sorted w h)
theorem sortT_perm (l : List Sp) : (sortT l).Perm l := by simpa [sortT] using fold_perm l []
theorem sortT_sorted (l : List Sp) : SortedS (sortT l) := fold_sorted l List.Pairwise.nil
theorem sortT_length (l : List Sp) : (sortT l).length = l.length := (sortT_perm l).length_eq
/-- There is one order. -/
theorem sorted_unique : ∀ {a b : List Sp}, SortedS a → SortedS b → a.Perm b → a = b
  | [], b, _, _, h => (List.nil_perm.1 h).symm
  | x :: a, [], _, _, h => by have := h.length_eq; simp at this
  | x :: a, y :: b, ha, hb, h => by
    obtain ⟨a1, a2⟩ := List.pairwise_cons.1 ha
    obtain ⟨b1, b2⟩ := List.pairwise_cons.1 hb
    have e : x = y := by
      rcases List.mem_cons.1 (h.mem_iff.1 List.mem_cons_self) with e | hx
      · exact e
      · rcases List.mem_cons.1 (h.mem_iff.2 List.mem_cons_self) with e | hy
        · exact e.symm
        · exact ahead_eq (b1 x hx) (a1 y hy)
    subst e
    rw [sorted_unique a2 b2 (h.cons_inv)]
theorem sort_eq {a b : List Sp} (h : SortedS a) (hp : a.Perm b) : a = sortT b := sorted_unique h (sortT_sorted b) (hp.trans (sortT_perm b).symm)
theorem sortT_self {a : List Sp} (h : SortedS a) : sortT a = a := (sort_eq h (List.Perm.refl a)).symm
theorem sortT_snoc (l : List Sp) (w : Sp) : sortT (l ++ [w]) = putT w (sortT l) := by simp [sortT]

/-- Where a want goes: ahead of the first one that it precedes. -/
def FirstAhead (w : Sp) (l : List Sp) (k : Nat) : Prop := k ≤ l.length ∧ (∀ j x, j < k → l[j]? = some x → aheadB w x = false) ∧ ∀ x, l[k]? = some x → aheadB w x = true
theorem put_at (w : Sp) : ∀ {l : List Sp} {k : Nat}, FirstAhead w l k → putT w l = l.take k ++ [w] ++ l.drop k
  | [], k, h => by
    obtain ⟨h1, _⟩ := h
    have : k = 0 := by simpa using h1
    subst this
    rfl
  | x :: r, 0, h => by
    have hx := h.2.2 x rfl
    unfold putT
    rw [if_pos hx]
    rfl
  | x :: r, k + 1, h => by
    have hx := h.2.1 0 x (by omega) rfl
    unfold putT
    rw [if_neg (by rw [hx]; decide)]
    have ih := put_at w (l := r) (k := k) ⟨by have := h.1; simp at this; omega, fun j y hj hy => h.2.1 (j + 1) y (by omega) (by simpa using hy), fun y hy => h.2.2 y (by simpa using hy)⟩
    rw [ih]
    rfl

/-- What is left without a unit. -/
def withoutT (u : Int) (l : List Sp) : List Sp := l.filter fun s => !decide (s.1 = u)

/-- Ints. -/
def IntS (s : Sp) : Prop := (-9223372036854775808 ≤ s.1 ∧ s.1 ≤ 9223372036854775807) ∧ (-9223372036854775808 ≤ s.2 ∧ s.2 ≤ 9223372036854775807)
def IntsS (l : List Sp) : Prop := ∀ s ∈ l, IntS s
theorem IntsS.take {l : List Sp} (h : IntsS l) (n : Nat) : IntsS (l.take n) := fun s hs => h s (List.mem_of_mem_take hs)
theorem IntsS.at_ {l : List Sp} (h : IntsS l) {j : Nat} {s : Sp} (hj : l[j]? = some s) : IntS s := h s (List.mem_of_getElem? hj)

/-- A sum, or that it runs over. -/
def addO (n s : Int) : Option Int := if -9223372036854775808 ≤ n + s ∧ n + s ≤ 9223372036854775807 then some (n + s) else none
def totL : Int → List Sp → Option Int
  | t, [] => some t
  | t, y :: r => match addO t y.2 with
    | none => none
    | some t' => totL t' r
def totT (l : List Sp) : Option Int := totL 0 l
theorem totL_some {t t' : Int} {y : Sp} {r : List Sp} (h : addO t y.2 = some t') : totL t (y :: r) = totL t' r := by simp [totL, h]
theorem totL_none {t : Int} {y : Sp} {r : List Sp} (h : addO t y.2 = none) : totL t (y :: r) = none := by simp [totL, h]
theorem drop_of {l : List Sp} {i : Nat} {y : Sp} (h : l[i]? = some y) : l.drop i = y :: l.drop (i + 1) := by
  obtain ⟨h1, h2⟩ := List.getElem?_eq_some_iff.1 h
  rw [List.drop_eq_getElem_cons h1, h2]

/-- Units. -/
def isTaskB (u : Int) : Bool := decide (1 ≤ u) && decide (u ≤ 200)
def isGroupB (u : Int) : Bool := decide (1 ≤ u) && decide (u ≤ 40)
def isU (u : Int) : Bool := (decide (1 ≤ u) && decide (u ≤ 200)) || (decide (1001 ≤ u) && decide (u ≤ 1040))
/-- What is wrong with a want behind others. -/
def chkE (f : Int) (b : List Sp) (y : Sp) : Int := if isU y.1 = false then 20 else if y.2 < 1 ∨ f < y.2 then 21 else if b.any (fun s => decide (s.1 = y.1)) then 11 else 0
def chkL (f : Int) : List Sp → List Sp → Int
  | _, [] => 0
  | b, y :: r => if chkE f b y = 0 then chkL f (b ++ [y]) r else chkE f b y
def chkT (f : Int) (l : List Sp) : Int := if f < 2 ∨ 64 < f then 1 else chkL f [] l
theorem chk_ok {f : Int} {l : List Sp} {i : Nat} {y : Sp} {R : Int} (h : l[i]? = some y) (hc : chkE f (l.take i) y = 0) (hR : chkL f (l.take i) (l.drop i) = R) : chkL f (l.take (i + 1)) (l.drop (i + 1)) = R := by
  rw [drop_of h, chkL, if_pos hc] at hR
  rw [List.take_add_one, h]
  exact hR
theorem chk_bad {f : Int} {l : List Sp} {i : Nat} {y : Sp} {R : Int} (h : l[i]? = some y) (hc : chkE f (l.take i) y ≠ 0) (hR : chkL f (l.take i) (l.drop i) = R) : R = chkE f (l.take i) y := by
  rw [drop_of h, chkL, if_neg hc] at hR
  exact hR.symm
theorem chkE_id {f : Int} {b : List Sp} {y : Sp} (h : isU y.1 = false) : chkE f b y = 20 := by simp [chkE, h]
theorem chkE_share {f : Int} {b : List Sp} {y : Sp} (h : isU y.1 = true) (h2 : y.2 < 1 ∨ f < y.2) : chkE f b y = 21 := by simp [chkE, h, h2]
theorem chkE_two {f : Int} {b : List Sp} {y : Sp} (h : isU y.1 = true) (h1 : ¬ y.2 < 1) (h2 : ¬ f < y.2) (h3 : b.any (fun s => decide (s.1 = y.1)) = true) : chkE f b y = 11 := by
  unfold chkE
  rw [if_neg (by rw [h]; decide), if_neg (by omega), if_pos h3]
theorem chkE_ok {f : Int} {b : List Sp} {y : Sp} (h : isU y.1 = true) (h1 : ¬ y.2 < 1) (h2 : ¬ f < y.2) (h3 : b.any (fun s => decide (s.1 = y.1)) = false) : chkE f b y = 0 := by
  unfold chkE
  rw [if_neg (by rw [h]; decide), if_neg (by omega), if_neg (by rw [h3]; decide)]

/-- The page's example. -/
theorem ex_sort : sortT [(3, 2), (5, 7), (1, 2)] = [(5, 7), (1, 2), (3, 2)] := by decide
theorem ex_total : totT [(5, 7), (1, 2), (3, 2)] = some 11 := by decide
end Go.Proofs.Ytpjmdnhoiobedaa
