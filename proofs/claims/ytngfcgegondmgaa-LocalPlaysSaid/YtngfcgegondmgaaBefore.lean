/-
  Calls that read, draw and lay blocks of their own; which of two members' values is less.
  Conditions: the numbers are small.
-/
import Derived.Test.YtngfcgegondmgaaInts
import Derived.Test.YtngfcgegondmgaaCompare
import Derived.Shelf.SlSortCmp.QuietGrown
set_option linter.unusedVariables false
namespace Go.Proofs.Ytngfcgegondmgaa
open Go.RowKit Go.Sort

/-- The world but for draws and blocks that were laid. -/
def Grown (w w' : World) : Prop := ∃ q os', w' = grow (w.drewN q) os'
theorem Grown.refl (w : World) : Grown w w := ⟨0, #[], by rw [grow_empty]; rfl⟩
theorem Grown.drewN {w w' : World} (h : Grown w w') (n : Nat) : Grown w (w'.drewN n) := by
  obtain ⟨q, os', rfl⟩ := h
  exact ⟨q + n, os', by show grow ((w.drewN q).drewN n) os' = _; rw [World.drewN_drewN]⟩
theorem Grown.alloc {w w' : World} (h : Grown w w') (o : Obj) : Grown w (w'.alloc o) := by
  obtain ⟨q, os', rfl⟩ := h
  exact ⟨q, os' ++ #[o], by rw [alloc_eq_grow, grow_grow]⟩
theorem grow_setCell (w : World) (os : Array Obj) (a : Addr) (v : Value) (ha : w.heap.size ≤ a.block) : ∃ os', (grow w os).setCell a v = grow w os' := by
  refine ⟨os.modify (a.block - w.heap.size) fun
      | .cells c elem frozen => .cells (if a.spot.isSome then c else c.setIfInBounds a.off v) elem frozen
      | o => o, ?_⟩
  unfold World.setCell grow
  congr 1
  apply Array.ext
  · simp
  · intro i h1 h2
    simp only [Array.getElem_modify, Array.getElem_append]
    by_cases hi : i < w.heap.size
    · rw [if_neg (by omega), dif_pos hi, dif_pos hi]
    · rw [dif_neg hi, dif_neg hi]
      by_cases e : a.block = i
      · rw [if_pos e, if_pos (by omega)]
        have hi2 : i - w.heap.size < os.size := by simp at h2; omega
        generalize os[i - w.heap.size]'hi2 = o
        cases o <;> rfl
      · rw [if_neg e, if_neg (by omega)]
theorem Grown.setCell {w w' : World} (h : Grown w w') {a : Addr} (ha : w.heap.size ≤ a.block) (v : Value) : Grown w (w'.setCell a v) := by
  obtain ⟨q, os', rfl⟩ := h
  obtain ⟨os2, e⟩ := grow_setCell (w.drewN q) os' a v ha
  exact ⟨q, os2, e⟩
theorem Grown.trans {a b c : World} (h : Grown a b) (k : Grown b c) : Grown a c := by
  obtain ⟨q, os, rfl⟩ := h
  obtain ⟨r, os', rfl⟩ := k
  exact ⟨q + r, os ++ os', by show grow (grow ((a.drewN q).drewN r) os) os' = _; rw [grow_grow, World.drewN_drewN]⟩
theorem grow_below (w : World) (os : Array Obj) : Below w.heap.size w (grow w os) := ⟨rfl, rfl, rfl, by simp [grow], fun k hk => by
  show (w.heap ++ os)[k]? = w.heap[k]?
  rw [Array.getElem?_append_left hk]⟩
theorem Grown.below {w w' : World} (h : Grown w w') : Below w.heap.size w w' := by
  obtain ⟨q, os, rfl⟩ := h
  exact (below_drewN (Below.refl w.heap.size w) q).trans (grow_below (w.drewN q) os)
/-- What a call answers that reads, may draw, and lays blocks of its own. -/
def RetG (v : Value) (w : World) (e : Ending) (w' : World) : Prop := e = .returned v ∧ Grown w w'
theorem RetG.ret {v : Value} {w w' : World} {e : Ending} (h : RetG v w e w') : RetB v w e w' := ⟨h.1, h.2.below⟩
theorem grown_met {f : FuncId} {args : Array Value} {w : World} {n : Nat} {os : Array Obj} {v : Value} (h : Calls Try.prog f args (grow (w.drewN n) os) (RetG v (grow (w.drewN n) os))) :
    Calls Try.prog f args (grow (w.drewN n) os) fun e w'' => e = .returned v ∧ ∃ p : GrownBy, w'' = grow (w.drewN p.n) p.os :=
  Calls.grown_of (h.mono fun _ _ h => h)

/-- An operation whose guard is struck. -/
theorem struck_if {b : Bool} {p q : Prop} (hb : b = false) (h : q) : if b = true then p else q := by
  rw [hb]
  exact h
theorem grew_on {B : Nat} {w w1 : World} (h : Below B w w1) (hB : B < w1.heap.size) (n : Nat) (os : Array Obj) : Below B w (grow (w1.drewN n) os) :=
  (below_drewN h n).trans ((grow_below (w1.drewN n) os).mono (show B ≤ w1.heap.size from Nat.le_of_lt hB))
theorem cmp_lt {x y : Nat} (h : x < y) : cmpN x y = -1 := by unfold cmpN; rw [if_pos h]
theorem cmp_ge {x y : Nat} (h : ¬ x < y) : decide (cmpN x y < 0) = false := by
  unfold cmpN
  rw [if_neg h]
  split <;> rfl
theorem u64_small {a : Nat} (h : a < 18446744073709551616) : IntKind.u64.wrap (a : Int) = (a : Int) := by rw [IntKind.wrap_u64]; omega

set_option maxRecDepth 100000 in
theorem before_any (m o : Lm) (hm : m.g ≤ 1000000) (ho : o.g ≤ 1000000) (h1 : 0 < m.s) (h2 : m.s ≤ 64) (h3 : 0 < o.s) (h4 : o.s ≤ 64) (W : World) :
    Calls Try.prog 43 #[mbA m, mbA o] W (RetG (.bool (decide ((m.g + 1) * o.s < (o.g + 1) * m.s))) W) := by
  obtain ⟨u1, s1, g1⟩ := m
  obtain ⟨u2, s2, g2⟩ := o
  simp only at *
  unfold mbA
  simp only
  have HC := Lib.hid (fun W => compare_ok (g1 + 1) s1 (g2 + 1) s2 (by omega) (by omega) (by omega) (by omega) (by simp; omega) (by simp; omega) W)
  have hv : decide (cmpN ((g1 + 1) * s2) ((g2 + 1) * s1) < 0) = decide ((g1 + 1) * s2 < (g2 + 1) * s1) := by
    by_cases h : (g1 + 1) * s2 < (g2 + 1) * s1
    · rw [cmp_lt h, decide_eq_true h]; rfl
    · rw [cmp_ge h, decide_eq_false h]
  rw [← hv]
  generalize cmpN ((g1 + 1) * s2) ((g2 + 1) * s1) = r at *
  obtain ⟨a, ha⟩ : ∃ a, g1 + 1 = a := ⟨_, rfl⟩
  obtain ⟨c, hc⟩ : ∃ c, g2 + 1 = c := ⟨_, rfl⟩
  have e1 : (g1 : Int) + 1 = (a : Int) := by omega
  have e2 : (g2 : Int) + 1 = (c : Int) := by omega
  have b1 : (a : Int) ≤ 1000001 := by omega
  have b2 : (c : Int) ≤ 1000001 := by omega
  have b3 : (s1 : Int) ≤ 64 := by omega
  have b4 : (s2 : Int) ≤ 64 := by omega
  rw [ha, hc] at HC
  clear hv ha hc hm ho h1 h2 h3 h4
  go_enter Try.func43, Try.ntmps43
  go_wp2_with (go_at_call 62; refine (HC.out _).mono ?_; rintro e w1 ⟨rfl, rfl⟩)
  all_goals go_ret
  all_goals exact ⟨by simp_all, ((Grown.refl W).alloc _).alloc _⟩
end Go.Proofs.Ytngfcgegondmgaa
