/-
  Who is next: by definition, and both functions that tell it.
  Conditions: none.
-/
import Derived.Test.YtnigoojjbljibaaChecks
set_option linter.unusedVariables false
namespace Go.Proofs.Ytnigoojjbljibaa
open Go.RowKit

def lessF (ws hs : List Int) (i b : Nat) : Bool := decide ((hs.getD i 0 + 1) * ws.getD b 0 < (hs.getD b 0 + 1) * ws.getD i 0)

def stepN (ws hs : List Int) (o : Option Nat) (i : Nat) : Option Nat :=
  if takesB (ws.getD i 0) (hs.getD i 0) = true then
    match o with
    | none => some i
    | some b => if lessF ws hs i b = true then some i else some b
  else o

/-- The best of the first k. -/
def nextT (ws hs : List Int) : Nat → Option Nat
  | 0 => none
  | k + 1 => stepN ws hs (nextT ws hs k) k

def nextL (ws hs : List Int) : Option Nat := nextT ws hs (min ws.length hs.length)

theorem nextT_some {ws hs : List Int} : ∀ {k b : Nat}, nextT ws hs k = some b → b < k ∧ takesB (ws.getD b 0) (hs.getD b 0) = true
  | 0, b, h => by cases h
  | k + 1, b, h => by
    rw [nextT] at h
    unfold stepN at h
    by_cases ht : takesB (ws.getD k 0) (hs.getD k 0) = true
    · rw [if_pos ht] at h
      cases ho : nextT ws hs k with
      | none => rw [ho] at h; simp at h; subst h; exact ⟨by omega, ht⟩
      | some c =>
        rw [ho] at h
        simp only [] at h
        split at h
        · injection h with h; subst h; exact ⟨by omega, ht⟩
        · injection h with h; subst h; have := nextT_some ho; exact ⟨by omega, this.2⟩
    · rw [if_neg ht] at h
      have := nextT_some h
      exact ⟨by omega, this.2⟩

def nextV : Option Nat → Value
  | none => .tuple #[.int .i64 0, .bool false]
  | some b => .tuple #[.int .i64 (b : Int), .bool true]

theorem getD_of {xs : List Int} {k : Nat} {x : Int} (h : xs[k]? = some x) : xs.getD k 0 = x := by rw [List.getD_eq_getElem?_getD, h]; rfl

theorem quiet_ret {P : Program} {f : FuncId} {args : Array Value} {w : World} {n : Nat} {v : Value} (h : Calls P f args (w.drewN n) (Ret v (w.drewN n))) :
    Calls P f args (w.drewN n) fun e w'' => e = .returned v ∧ ∃ m, w'' = w.drewN m := h.mono fun _ _ ⟨he, hm⟩ => ⟨he, n, hm.symm⟩

theorem step_skip {ws hs : List Int} {k : Nat} {x y : Int} (hx : ws[k]? = some x) (hy : hs[k]? = some y) (h : takesB x y = false) : nextT ws hs (k + 1) = nextT ws hs k := by
  rw [nextT]
  unfold stepN
  rw [getD_of hx, getD_of hy, h]; rfl
theorem step_first {ws hs : List Int} {k : Nat} {x y : Int} (hx : ws[k]? = some x) (hy : hs[k]? = some y) (h : takesB x y = true) (hn : nextT ws hs k = none) : nextT ws hs (k + 1) = some k := by
  rw [nextT]
  unfold stepN
  rw [getD_of hx, getD_of hy, h, hn]; rfl
theorem step_take {ws hs : List Int} {k b : Nat} {x y p q : Int} (hx : ws[k]? = some x) (hy : hs[k]? = some y) (h : takesB x y = true) (hn : nextT ws hs k = some b)
    (hp : ws[b]? = some p) (hq : hs[b]? = some q) (hl : (y + 1) * p < (q + 1) * x) : nextT ws hs (k + 1) = some k := by
  rw [nextT]
  unfold stepN
  rw [getD_of hx, getD_of hy, h, hn, if_pos rfl]
  simp only [lessF, getD_of hx, getD_of hy, getD_of hp, getD_of hq]
  rw [if_pos (decide_eq_true hl)]
theorem step_stay {ws hs : List Int} {k b : Nat} {x y p q : Int} (hx : ws[k]? = some x) (hy : hs[k]? = some y) (h : takesB x y = true) (hn : nextT ws hs k = some b)
    (hp : ws[b]? = some p) (hq : hs[b]? = some q) (hl : ¬ (y + 1) * p < (q + 1) * x) : nextT ws hs (k + 1) = some b := by
  rw [nextT]
  unfold stepN
  rw [getD_of hx, getD_of hy, h, hn, if_pos rfl]
  simp only [lessF, getD_of hx, getD_of hy, getD_of hp, getD_of hq]
  rw [if_neg (by rw [decide_eq_false hl]; simp)]

theorem prod_in {y p : Int} (h0 : 0 ≤ y) (h1 : y < 1099511627776) (h2 : 0 < p) (h3 : p ≤ 1000) : 0 ≤ (y + 1) * p ∧ (y + 1) * p ≤ 1099511627776000 := by
  constructor
  · exact Int.mul_nonneg (by omega) (by omega)
  · have : (y + 1) * p ≤ 1099511627776 * 1000 := Int.mul_le_mul (by omega) h3 (by omega) (by omega)
    omega

def NextRel (ws hs : List Int) (m : Nat) (w : World) (g : Nat) (s6 s7 s14 : Value) (wr : World) : Prop :=
  ∃ k : Nat, k ≤ m ∧ g = m - k ∧ s14 = .int .i64 k ∧ Below w.heap.size w wr ∧
    ((nextT ws hs k = none ∧ s6 = .int .i64 0 ∧ s7 = .bool false) ∨ ∃ b : Nat, nextT ws hs k = some b ∧ s6 = .int .i64 b ∧ s7 = .bool true)

def RefNextRel (ws hs : List Int) (m : Nat) (w : World) (g : Nat) (s6 s7 : Value) (wr : World) : Prop :=
  ∃ k : Nat, k ≤ m ∧ g = m - k ∧ s7 = .int .i64 k ∧ Below w.heap.size w wr ∧
    ((nextT ws hs k = none ∧ s6 = .int .i64 (-1)) ∨ ∃ b : Nat, nextT ws hs k = some b ∧ s6 = .int .i64 b)
end Go.Proofs.Ytnigoojjbljibaa
