/-
  An argument that is a slice of steps, opened: its steps, in memory and as data, with their bounds.
  Conditions: the reading itself.
-/
import Derived.Test.YtciebpijdgdcjaaDoorInner
import Derived.Test.YtciebpijdgdcjaaDoorRowKit
import Derived.Deep.Slices
import Derived.Deep.Fields
namespace Go.Proofs.YtciebpijdgdcjaaDoor
open Go.ChangeShapes Go.WideShapes Go.RowKit Go.Deep

def ActV.ok (a : ActV) : Prop := I64 a.kind ∧ I64 a.code ∧ I64 a.pos

instance : Inhabited ActV := ⟨⟨0, 0, ⟨#[]⟩, 0⟩⟩

theorem Tryd.cellsAct : Tryd.prog.cellsOf 50 = 4 := by kernel_rfl
theorem Tryd.cellsInt : Tryd.prog.cellsOf 3 = 1 := by kernel_rfl
theorem Tryd.cellsStr : Tryd.prog.cellsOf 9 = 1 := by kernel_rfl
theorem Tryd.laidOut : laidOutB Tryd.prog = true := by kernel_rfl

theorem list4 {α : Type} {l : List α} (h : l.length = 4) : ∃ a b c d, l = [a, b, c, d] := by
  cases l with
  | nil => cases h
  | cons a l => cases l with
    | nil => cases h
    | cons b l => cases l with
      | nil => cases h
      | cons c l => cases l with
        | nil => cases h
        | cons d l => cases l with
          | nil => exact ⟨a, b, c, d, rfl⟩
          | cons e l => cases h

section
variable {H : Type} {enc : TypeId × Value → H} {W : World} {sp : Nat → Bool} {held : Bool}

/-- One step's four cells. -/
theorem act_of_cells {fuel : Nat} {cs : List Value} {x : DataW H × List MemPlace} (h : DataW.trod enc Tryd.prog W 0 sp held fuel 50 cs = some x) :
    ∃ a : ActV, a.ok ∧ cs = [.int .i64 a.kind, .int .i64 a.code, .string a.part, .int .i64 a.pos] := by
  obtain ⟨xs, n, _, _, hlen, hxs, hf⟩ := DataW.trod_struct Tryd.underlying50 h
  rw [Tryd.cellsAct] at hlen
  obtain ⟨v0, v1, v2, v3, rfl⟩ := list4 hlen
  obtain ⟨x0, x1, x2, x3, rfl⟩ := list4 (show xs.length = 4 from hxs)
  have g0 : DataW.trod enc Tryd.prog W 0 sp held n 3 (([v0, v1, v2, v3].drop 0).take (Tryd.prog.cellsOf 3)) = some x0 := hf 0 _ rfl
  have g1 : DataW.trod enc Tryd.prog W 0 sp held n 3 (([v0, v1, v2, v3].drop 1).take (Tryd.prog.cellsOf 3)) = some x1 := hf 1 _ rfl
  have g2 : DataW.trod enc Tryd.prog W 0 sp held n 9 (([v0, v1, v2, v3].drop 2).take (Tryd.prog.cellsOf 9)) = some x2 := hf 2 _ rfl
  have g3 : DataW.trod enc Tryd.prog W 0 sp held n 3 (([v0, v1, v2, v3].drop 3).take (Tryd.prog.cellsOf 3)) = some x3 := hf 3 _ rfl
  rw [Tryd.cellsInt] at g0 g1 g3
  rw [Tryd.cellsStr] at g2
  simp only [List.drop_succ_cons, List.drop_zero, List.take_succ_cons, List.take_zero] at g0 g1 g2 g3
  obtain ⟨k, e0, _, w0⟩ := DataW.trod_int Tryd.underlying3 g0
  obtain ⟨c, e1, _, w1⟩ := DataW.trod_int Tryd.underlying3 g1
  obtain ⟨s, e2, _, _⟩ := DataW.trod_string Tryd.underlying9 g2
  obtain ⟨p, e3, _, w3⟩ := DataW.trod_int Tryd.underlying3 g3
  simp only [List.cons.injEq, and_true] at e0 e1 e2 e3
  exact ⟨⟨k, c, s, p⟩, ⟨bounds_i64 w0, bounds_i64 w1, bounds_i64 w3⟩, by rw [e0, e1, e2, e3]⟩

theorem acts_open {fuel : Nat} {sv : Value} {x : DataW H × List MemPlace} (h : DataW.trod enc Tryd.prog W 0 sp held fuel 22 [sv] = some x) :
    ∃ acts : List ActV, ActsAt W sv acts ∧ ∀ a ∈ acts, a.ok := by
  rcases open_slice Tryd.underlying22 h with ⟨h1, _⟩ | ⟨a, len, cap, m, n, D, Pl, h1, _, hl, hm, hmm, _, hi⟩
  · simp only [List.cons.injEq, and_true] at h1
    subst h1
    exact ⟨[], .inl ⟨rfl, none, 0, rfl⟩, by simp⟩
  · simp only [List.cons.injEq, and_true] at h1
    subst h1
    have hlm : len ≤ m := by rw [hmm]; split <;> omega
    have key : ∀ i, i < len → ∃ x : ActV, x.ok ∧ W.cell? (a.add (i * 4 + 0)) = some (.int .i64 x.kind) ∧ W.cell? (a.add (i * 4 + 1)) = some (.int .i64 x.code) ∧ W.cell? (a.add (i * 4 + 2)) = some (.string x.part) ∧ W.cell? (a.add (i * 4 + 3)) = some (.int .i64 x.pos) := by
      intro i hlt
      obtain ⟨cs', hc, ht⟩ := hi i (by omega)
      rw [Tryd.cellsAct] at hc
      obtain ⟨x, hok, rfl⟩ := act_of_cells ht
      obtain ⟨_, _, hat⟩ := World.cells?_some hc
      refine ⟨x, hok, ?_, ?_, ?_, ?_⟩
      · rw [← Go.Deep.add_add, hat 0 (by decide)]; rfl
      · rw [← Go.Deep.add_add, hat 1 (by decide)]; rfl
      · rw [← Go.Deep.add_add, hat 2 (by decide)]; rfl
      · rw [← Go.Deep.add_add, hat 3 (by decide)]; rfl
    obtain ⟨f, hf⟩ := choose_lt key
    by_cases h0 : len = 0
    · subst h0
      exact ⟨[], .inl ⟨rfl, some a, cap, rfl⟩, by simp⟩
    · obtain ⟨b, off, spot⟩ := a
      have hspot : spot = none := by simpa [Addr.add] using World.cell?_spot (hf 0 (by omega)).2.1
      subst hspot
      refine ⟨(List.range len).map f, .inr ⟨b, off, cap, by simp, ?_, by simp; unfold maxLen at hm; omega, ?_⟩, ?_⟩
      · exact lt_of_cell (by simpa [Addr.add] using (hf 0 (by omega)).2.1)
      · intro j hj
        have hj' : j < len := by simpa using hj
        obtain ⟨_, c0, c1, c2, c3⟩ := hf j hj'
        simp only [List.getElem_map, List.getElem_range]
        rw [add_plain] at c0 c1 c2 c3
        simp only [← Nat.add_assoc, Nat.add_zero] at c0 c1 c2 c3
        exact ⟨c0, c1, c2, c3⟩
      · intro x hx
        obtain ⟨i, hi', rfl⟩ := List.mem_map.1 hx
        exact (hf i (List.mem_range.1 hi')).1
end
end Go.Proofs.YtciebpijdgdcjaaDoor
