/-
  The document's list of items in memory; what it says of it: without an id, the first of all, an id's key.
  Conditions: none.
-/
import Derived.Test.YtademjmnoncieaaPut
set_option linter.unusedVariables false
namespace Go.Proofs.Ytademjmnoncieaa
open Go.RowKit

/-- An id with its key. -/
abbrev It := Nat × Nat × Nat
theorem Try.infoItem : (Try.prog.info? 34).map (fun i => (i.zero, i.size, i.bytes)) = some (some (.agg #[.int .i64 0, .int .u64 0, .int .u64 0]), 3, 24) := by kernel_rfl

def itV (it : It) : List Value := [.int .i64 it.1, .int .u64 it.2.1, .int .u64 it.2.2]
def itemCells (its : List It) : List Value := its.flatMap itV
theorem itemCells_nil : itemCells [] = [] := rfl
theorem itemCells_cons (it : It) (its : List It) : itemCells (it :: its) = .int .i64 it.1 :: .int .u64 it.2.1 :: .int .u64 it.2.2 :: itemCells its := by simp [itemCells, itV]
theorem itemCells_snoc (its : List It) (it : It) : itemCells (its ++ [it]) = itemCells its ++ [.int .i64 it.1, .int .u64 it.2.1, .int .u64 it.2.2] := by simp [itemCells, itV]
theorem itemCells_length : ∀ (its : List It), (itemCells its).length = its.length * 3
  | [] => rfl
  | p :: ps => by rw [itemCells_cons]; simp [itemCells_length ps]; omega
theorem itemCells_get : ∀ (its : List It) (j : Nat) (it : It), its[j]? = some it → (itemCells its)[j * 3]? = some (.int .i64 it.1) ∧ (itemCells its)[j * 3 + 1]? = some (.int .u64 it.2.1) ∧ (itemCells its)[j * 3 + 2]? = some (.int .u64 it.2.2)
  | [], j, p, h => by simp at h
  | q :: ps, 0, p, h => by
    simp at h
    subst h
    exact ⟨rfl, rfl, rfl⟩
  | q :: ps, j + 1, p, h => by
    have h' : ps[j]? = some p := by simpa using h
    have ih := itemCells_get ps j p h'
    rw [itemCells_cons, show (j + 1) * 3 = j * 3 + 1 + 1 + 1 by omega]
    simpa using ih

/-- An item lies at an address. -/
def ItAt (W : World) (b o : Nat) (it : It) : Prop := W.cell? ⟨b, o, none⟩ = some (.int .i64 it.1) ∧ W.cell? ⟨b, o + 1, none⟩ = some (.int .u64 it.2.1) ∧ W.cell? ⟨b, o + 2, none⟩ = some (.int .u64 it.2.2)
def ItemsAt (W : World) (v : Value) (its : List It) : Prop :=
  ∃ A c, v = .slice A its.length c ∧ its.length ≤ c ∧ its.length ≤ 100000 ∧ c ≤ 9223372036854775807 ∧
    (0 < its.length → ∃ b off, A = some ⟨b, off, none⟩ ∧ b < W.heap.size ∧ ∀ (j : Nat) (it : It), its[j]? = some it → ItAt W b (off + j * 3) it)
theorem ItemsAt.nil (W : World) : ItemsAt W (.slice none 0 0) [] := ⟨none, 0, rfl, Nat.le_refl _, by simp, by simp, fun h => absurd h (by simp)⟩
theorem ItemsAt.form {W : World} {v : Value} {its : List It} (h : ItemsAt W v its) : ∃ A c, v = .slice A its.length c := by
  obtain ⟨A, c, h, _⟩ := h
  exact ⟨A, c, h⟩
theorem cell_of_same {W W' : World} {b : Nat} (h : W'.heap[b]? = W.heap[b]?) (o : Nat) : W'.cell? ⟨b, o, none⟩ = W.cell? ⟨b, o, none⟩ := World.cell?_of_block (w := W) h
theorem ItemsAt.keep {W W' : World} {v : Value} {its : List It} (h : ItemsAt W v its) (hs : W.heap.size ≤ W'.heap.size) (hb : ∀ b, v.ownBlock = some b → b < W.heap.size → W'.heap[b]? = W.heap[b]?) : ItemsAt W' v its := by
  obtain ⟨A, c, rfl, h2, h3, h4, h5⟩ := h
  refine ⟨A, c, rfl, h2, h3, h4, fun hn => ?_⟩
  obtain ⟨b, off, e, hlt, hc⟩ := h5 hn
  subst e
  refine ⟨b, off, rfl, Nat.lt_of_lt_of_le hlt hs, fun j x hx => ?_⟩
  obtain ⟨a1, a2, a3⟩ := hc j x hx
  have hb' := hb b rfl hlt
  exact ⟨(cell_of_same hb' _).trans a1, (cell_of_same hb' _).trans a2, (cell_of_same hb' _).trans a3⟩
theorem ItemsAt.below {W W' : World} {v : Value} {its : List It} (h : ItemsAt W v its) (hb : Below W.heap.size W W') : ItemsAt W' v its := h.keep hb.size fun b _ hl => hb.block b hl
theorem items_of_own {W : World} {base e : Nat} {v : Value} {its : List It} (h : W.ownsRow base e 3 v its.length (itemCells its)) (hl : its.length ≤ 100000) : ItemsAt W v its := by
  obtain ⟨h1, h2⟩ := h
  rcases h2 with ⟨rfl, h0⟩ | ⟨g, cap, cur, rfl, hg, hh, hn, hc, hs, ht⟩
  · have : its = [] := List.eq_nil_of_length_eq_zero h0
    subst this
    exact ItemsAt.nil W
  · refine ⟨_, _, rfl, hn, hl, by unfold maxLen at hc; omega, fun _ => ⟨g, 0, rfl, heap_lt hh, fun j p hp => ?_⟩⟩
    have hj : j < its.length := (List.getElem?_eq_some_iff.1 hp).1
    obtain ⟨g1, g2, g3⟩ := itemCells_get its j p hp
    have key : ∀ (i : Nat) (u : Value), i < its.length * 3 → (itemCells its)[i]? = some u → W.cell? ⟨g, 0 + i, none⟩ = some u := by
      intro i u hi hu
      rw [Nat.zero_add, cell_of_row W g i _ _ (0, 0) hh, ← hu, ← ht, List.getElem?_take, if_pos hi]
      simp
    exact ⟨key _ _ (by omega) g1, key _ _ (by omega) g2, key _ _ (by omega) g3⟩
theorem own_base6 {w : World} {base e size n : Nat} {v : Value} {xs : List Value} (h : w.ownsRow base e size v n xs) : ∀ k, v.ownBlock = some k → base ≤ k := by
  intro k hk
  rcases h.2 with ⟨h1, _⟩ | ⟨g, cap, cur, h1, h2, _⟩
  · subst h1; cases hk
  · subst h1; cases hk; exact h2
theorem own_below6 {w w' : World} {base e size n : Nat} {v : Value} {xs : List Value} (h : w.ownsRow base e size v n xs) (hb : Below w.heap.size w w') : w'.ownsRow base e size v n xs := by
  obtain ⟨h1, h2⟩ := h
  refine ⟨h1, ?_⟩
  rcases h2 with h2 | ⟨g, cap, cur, hv, hg, hh, r⟩
  · exact .inl h2
  · exact .inr ⟨g, cap, cur, hv, hg, by rw [hb.block g (Array.getElem?_eq_some_iff.1 hh).1]; exact hh, r⟩
theorem below_grown6 {w w' : World} {row : Option Nat} {B : Nat} (hg : w.grownBy w' row) (hB : B ≤ w.heap.size) (hr : ∀ k, row = some k → B ≤ k) : Below B w w' := (Below.refl B w).grown hg hB hr
theorem news_three (W : World) (B : Nat) (hB : W.heap.size = B) (t : Nat) (a b c : Value) : ∀ j u, [a, b, c][j]? = some u → (W.alloc (.cells #[a, b, c] t)).cell? ((⟨B, 0, none⟩ : Addr).add j) = some u := by
  subst hB
  exact World.news_of_block (heap_alloc_new W _)

/-- What a call answers that makes a list: in blocks of its own. -/
def RetIt (its : List It) (f : Value → Value) (w : World) (e : Ending) (w' : World) : Prop :=
  ∃ v, e = .returned (f v) ∧ w'.ownsRow w.heap.size 34 3 v its.length (itemCells its) ∧ Below w.heap.size w w'

def dropI (its : List It) (id : Int) : List It := its.filter fun it => decide ((it.1 : Int) ≠ id)
theorem dropI_snoc_yes {its : List It} {it : It} {id : Int} (h : (it.1 : Int) ≠ id) : dropI (its ++ [it]) id = dropI its id ++ [it] := by
  unfold dropI; rw [List.filter_append]; simp [h]
theorem dropI_snoc_no {its : List It} {it : It} {id : Int} (h : (it.1 : Int) = id) : dropI (its ++ [it]) id = dropI its id := by
  unfold dropI; rw [List.filter_append]; simp [h]
theorem dropI_length (its : List It) (id : Int) : (dropI its id).length ≤ its.length := List.length_filter_le _ _

def aheadI (a b : It) : Bool := aheadB a.2.1 a.2.2 a.1 b.2.1 b.2.2 b.1
def bestI (best x : It) : It := if aheadI x best = true then x else best
/-- Who is before all others. -/
def minT : List It → Option It
  | [] => none
  | i :: r => some (r.foldl bestI i)
def minP (its : List It) : Int × Bool := match minT its with
  | none => (0, false)
  | some it => (it.1, true)
def pairV (p : Int × Bool) : Value := .tuple #[.int .i64 p.1, .bool p.2]

def keyF (its : List It) (id : Int) : Option It := its.find? fun it => decide ((it.1 : Int) = id)
def keyP (its : List It) (id : Int) : Nat × Nat × Bool := match keyF its id with
  | none => (0, 0, false)
  | some it => (it.2.1, it.2.2, true)
def tripV (p : Nat × Nat × Bool) : Value := .tuple #[.int .u64 p.1, .int .u64 p.2.1, .bool p.2.2]

/-- The numbers are words. -/
def GoodI (its : List It) : Prop := ∀ it ∈ its, it.2.1 < 18446744073709551616 ∧ it.2.2 < 18446744073709551616 ∧ it.1 < 1024
end Go.Proofs.Ytademjmnoncieaa
