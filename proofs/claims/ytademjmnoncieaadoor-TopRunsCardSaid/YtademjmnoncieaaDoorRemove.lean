/-
  Remove and Pop of the program.
  Conditions: the heap lies in memory, and is right.
-/
import Derived.Test.YtademjmnoncieaaDoorSink
import Derived.Test.YtademjmnoncieaaDoorNew
set_option linter.unusedVariables false
namespace Go.Proofs.YtademjmnoncieaaDoor
open Go.RowKit

theorem wrap64_small6 {i : Int} (h0 : -9223372036854775808 ≤ i) (h1 : i ≤ 9223372036854775807) : wrap64 i = i := IntWalk.wrap64_in i ⟨h0, h1⟩

/-- The row's block is the one that was, or a new one. -/
def Grew (w : World) (lv lv' : Value) : Prop := ∀ k, lv'.ownBlock = some k → lv.ownBlock = some k ∨ w.heap.size ≤ k
/-- Behind a call that changes keys. -/
def MutPost (W : World) (hb kb : Nat) (lv : Value) (v : Value) (C : Hs → Prop) (e : Ending) (wr : World) : Prop :=
  ∃ (lv' : Value) (s' : Hs), e = .returned v ∧ HeapAt wr hb kb lv' s' ∧ Okay s' ∧ C s' ∧ Apart (Foot hb kb lv) W wr ∧ Grew W lv lv'

/-- The row is cut by one. -/
theorem HeapAt.cut_line {W : World} {hb kb g cap : Nat} {s : Hs} {n : Nat} (h : HeapAt W hb kb (.slice (some ⟨g, 0, none⟩) n cap) s) (hm : 0 < s.m) :
    HeapAt (W.setCell ⟨hb, 1, none⟩ (.slice (some ⟨g, 0, none⟩) (s.m - 1) cap)) hb kb (.slice (some ⟨g, 0, none⟩) (s.m - 1) cap) { s with m := s.m - 1 } where
  head := by
    have := heap_setCell_at W hb 1 _ _ _ (.slice (some ⟨g, 0, none⟩) (s.m - 1) cap) h.head
    exact this
  keys := by
    obtain ⟨arr, e, r⟩ := h.keys
    exact ⟨arr, (Below.heap_setCell _ _ _ _ (fun e => h.ne1 e.symm)).trans e, r⟩
  line := by
    rcases h.line with ⟨h0, _⟩ | ⟨g', cap', cur, hv, e, h1, h2, h3, hc⟩
    · cases h0
    · injection hv with e1 e2 e3
      injection e1 with e1
      injection e1 with e1
      subst e1 e3
      refine .inr ⟨g, cap, cur, rfl, (Below.heap_setCell _ _ _ _ (fun e => h.ne2 (by have e' : g = hb := e; rw [e']; rfl))).trans e, by show s.m - 1 ≤ cap; omega, h2, h3, fun i hi => ?_⟩
      have hi' : i < s.m - 1 := hi
      exact hc i (by omega)
  ne1 := h.ne1
  ne2 := h.ne2
  ne3 := h.ne3
  n0 := h.n0
  n1 := h.n1
  m1 := by have := h.m1; show s.m - 1 ≤ 100000; omega
  w1 := h.w1
  w2 := h.w2

def cutC (s : Hs) (x : Nat) (s' : Hs) : Prop := s'.n = s.n ∧ s'.m + 1 = s.m ∧ s'.num = upd s.num x 0 ∧ s'.den = upd s.den x 0

/-- Remove, whatever the id. -/
def RemC (s : Hs) (id : Int) (s' : Hs) : Prop := if hasKey s id = true then cutC s id.toNat s' else s' = s
/-- Pop: who stands first goes. -/
def PopC (s : Hs) (s' : Hs) : Prop := if s.m = 0 then s' = s else cutC s (s.L 0) s'
end Go.Proofs.YtademjmnoncieaaDoor
