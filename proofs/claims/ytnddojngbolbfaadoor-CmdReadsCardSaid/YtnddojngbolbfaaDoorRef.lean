/-
  The reference's Code, New, Turn, Wrap over its own chains.
  Conditions: at most 1048576 links.
-/
import Derived.Test.YtnddojngbolbfaaDoorAwake
import Derived.OwnWalk
import Derived.WalkLawsBesides
import Derived.Deep.RegionHeld3
namespace Go.Proofs.YtnddojngbolbfaaDoor
open Go.RowKit Go.Extern.Stop Go.Stop Go.Extern

theorem Tryd.infoRLink : (Tryd.prog.info? 53).map (fun i => (i.zero, i.size, i.bytes)) = some (some (.agg #[.int .i64 0, .string ⟨#[]⟩, .int .i64 0]), 3, 32) := by kernel_rfl

/-- The reference's links in memory. -/
def RAt (base : Nat) (w : World) (lv : Value) (js : List Item) : Prop := w.ownsRow base 53 3 lv js.length (linksCells js)

theorem RAt.kept {base : Nat} {w w' : World} {lv : Value} {js : List Item} (h : RAt base w lv js) (hb : Below w.heap.size w w') : RAt base w' lv js := ownsRow_below h hb

def rcodeOf (s : Bool) (js : List Item) : Int := match s, js with
  | false, _ => 0
  | true, [] => 6
  | true, j :: _ => j.code

def RCodePost (s : Bool) (js : List Item) (w : World) (e : Ending) (w' : World) : Prop := e = .returned (.int .i64 (rcodeOf s js)) ∧ Below w.heap.size w w'

theorem RAt.slice {base : Nat} {w : World} {lv : Value} {js : List Item} (h : RAt base w lv js) : ∃ a n c, lv = .slice a n c := by
  rcases h.2 with ⟨h1, _⟩ | ⟨g, cap, _, h1, _⟩
  · exact ⟨_, _, _, h1⟩
  · exact ⟨_, _, _, h1⟩

theorem RAt.cells {base : Nat} {w : World} {lv : Value} {js : List Item} (h : RAt base w lv js) (hp : 0 < js.length) : ∃ g cap, lv = .slice (some ⟨g, 0, none⟩) js.length cap ∧ g < w.heap.size ∧ base ≤ g ∧
    ∀ j (h : j < js.length), w.cell? ⟨g, j * 3, none⟩ = some (.int .i64 (js[j]'h).code) ∧ w.cell? ⟨g, j * 3 + 1, none⟩ = some (.string (js[j]'h).part) ∧ w.cell? ⟨g, j * 3 + 2, none⟩ = some (.int .i64 (js[j]'h).pos) := by
  rcases h.2 with ⟨_, h2⟩ | ⟨g, cap, cur, hv, hb, hh, hn, hm, hsz, htk⟩
  · omega
  · refine ⟨g, cap, hv, (Array.getElem?_eq_some_iff.1 hh).1, hb, fun j hj => ?_⟩
    have key : ∀ k, k < 3 → w.cell? ⟨g, j * 3 + k, none⟩ = (linksCells js)[j * 3 + k]? := by
      intro k hk
      have e1 : w.cell? ⟨g, j * 3 + k, none⟩ = cur[j * 3 + k]? := by simp [World.cell?, hh]
      rw [e1, ← htk, List.getElem?_take, if_pos (by omega)]
      simp
    obtain ⟨a, b, c⟩ := linksCells_at js j hj
    refine ⟨?_, ?_, ?_⟩
    · have := key 0 (by omega); rw [Nat.add_zero] at this; rw [this]; exact a
    · rw [key 1 (by omega)]; exact b
    · rw [key 2 (by omega)]; exact c

/-- What the reference's New, Wrap and Turn come to where they make a chain. -/
def RMade (base : Nat) (c : Int) (part : ByteArray) (pos : Int) (js : List Item) (w : World) (e : Ending) (w' : World) : Prop :=
  ∃ g cap b, e = .returned (.agg #[.bool true, .slice (some ⟨g, 0, none⟩) (js.length + 1) cap]) ∧ Below w.heap.size w w' ∧ RAt base w' (.slice (some ⟨g, 0, none⟩) (js.length + 1) cap) (⟨b, c, part, pos⟩ :: js)

/-- A new row of one link. -/
theorem one_row (base : Nat) (w : World) (hb : base ≤ w.heap.size) (b : Nat) (c : Int) (part : ByteArray) (pos : Int) :
    RAt base (w.alloc (.cells #[.int .i64 c, .string part, .int .i64 pos] 53)) (.slice (some ⟨w.heap.size, 0, none⟩) 1 1) [⟨b, c, part, pos⟩] := by
  refine ⟨rfl, .inr ⟨w.heap.size, 1, #[.int .i64 c, .string part, .int .i64 pos], rfl, hb, World.alloc_heap_new _ _, Nat.le_refl 1, by decide, rfl, rfl⟩⟩

theorem RAt.setOther {base : Nat} {w : World} {lv : Value} {js : List Item} (h : RAt base w lv js) {b : Nat} {cs : Array Value} {T : TypeId} {fr : Nat × Nat} (hb : w.heap[b]? = some (.cells cs T fr)) (hT : T ≠ 53) (o : Nat) (x : Value) : RAt base (w.setCell ⟨b, o, none⟩ x) lv js := by
  refine ⟨h.1, ?_⟩
  rcases h.2 with h2 | ⟨g, cap, cur, hv, hg, hh, r⟩
  · exact .inl h2
  · refine .inr ⟨g, cap, cur, hv, hg, ?_, r⟩
    rw [Below.heap_setCell _ _ _ _ (by
      intro e
      have e' : g = b := e
      subst e'
      rw [hh] at hb
      cases hb
      exact hT rfl)]
    exact hh

theorem linksCells_one (js : List Item) : ∀ u ∈ linksCells js, u.oneCell' = true := by
  intro u hu
  obtain ⟨i, _, hi⟩ := List.mem_flatMap.1 hu
  simp [linkCells] at hi
  rcases hi with rfl | rfl | rfl <;> rfl
end Go.Proofs.YtnddojngbolbfaaDoor
