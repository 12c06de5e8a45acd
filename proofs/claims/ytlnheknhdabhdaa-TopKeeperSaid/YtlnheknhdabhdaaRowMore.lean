/-
  An argument that is a slice of slices of bytes, opened; a byte.
  Conditions: the reading itself.
-/
import Derived.Test.YtlnheknhdabhdaaRowNums
import Derived.Deep.Slices
set_option linter.unusedVariables false
namespace Go.Proofs.Ytlnheknhdabhdaa
open Go.ChangeShapes Go.WideShapes Go.RowKit Go.Deep

theorem nat_of_u8 {n : Int} (h : (Lit.int .u8 n).wf = true) : ∃ m : Nat, n = (m : Int) ∧ m < 256 := by
  have h1 := wf_u8 n h
  exact ⟨n.toNat, by omega, by omega⟩

/-- The value reads as slices that read as bytes. -/
def ListsAt (W : World) (v : Value) (ls : List (Value × List Nat)) : Prop :=
  ∃ A c, v = .slice A ls.length c ∧ ls.length ≤ 9223372036854775807 ∧ (0 < ls.length → ∃ b off, A = some ⟨b, off, none⟩ ∧ b < W.heap.size ∧ ∀ (j : Nat) (p : Value × List Nat), ls[j]? = some p → W.cell? ⟨b, off + j, none⟩ = some p.1) ∧
    ∀ p ∈ ls, BytesAt W p.1 p.2
theorem ListsAt.keep {W W' : World} {v : Value} {ls : List (Value × List Nat)} (h : ListsAt W v ls) (hb : Below W.heap.size W W') : ListsAt W' v ls := by
  obtain ⟨A, c, h1, h2, h3, h4⟩ := h
  refine ⟨A, c, h1, h2, fun hn => ?_, fun p hp => (h4 p hp).keep hb⟩
  obtain ⟨b, off, e, hlt, hc⟩ := h3 hn
  exact ⟨b, off, e, Nat.lt_of_lt_of_le hlt hb.size, fun j p hp => (hb.cell (p := ⟨b, off + j, none⟩) hlt).trans (hc j p hp)⟩

theorem Try.cellsBytes : Try.prog.cellsOf 22 = 1 := by kernel_rfl
theorem lists_open {H : Type} {enc : TypeId × Value → H} {W : World} {sp : Nat → Bool} {held : Bool} {fuel : Nat} {sv : Value} {x : DataW H × List MemPlace}
    (h : DataW.trod enc Try.prog W 0 sp held fuel 37 [sv] = some x) : ∃ ls, ListsAt W sv ls := by
  rcases open_slice Try.underlying37 h with ⟨h1, _⟩ | ⟨a, len, cap, m, n, D, Pl, h1, _, hl, hm, hmm, _, hi⟩
  · simp only [List.cons.injEq, and_true] at h1
    subst h1
    exact ⟨[], none, 0, rfl, by decide, fun h => absurd h (by decide), fun p hp => by cases hp⟩
  · simp only [List.cons.injEq, and_true] at h1
    subst h1
    have hlm : len ≤ m := by rw [hmm]; split <;> omega
    have key : ∀ i, i < len → ∃ p : Value × List Nat, W.cell? (a.add i) = some p.1 ∧ BytesAt W p.1 p.2 := by
      intro i hlt
      obtain ⟨cs', hc, ht⟩ := hi i (by omega)
      rw [Try.cellsBytes, Nat.mul_one] at hc
      obtain ⟨_, hl1, hat⟩ := World.cells?_some hc
      have h0 := hat 0 (by decide)
      have e1 : cs' = [cs'.headD undef] := by
        cases cs' with
        | nil => simp at hl1
        | cons u r => cases r with
          | nil => rfl
          | cons u' r' => simp at hl1
      rw [e1] at ht
      obtain ⟨xs, hx⟩ := bytes_open ht
      refine ⟨(cs'.headD undef, xs), ?_, hx⟩
      rw [e1] at h0
      rw [show a.add i = (a.add i).add 0 by unfold Addr.add; split <;> simp] 
      exact h0
    obtain ⟨f, hf⟩ := choose_lt key
    have hn : ((List.range len).map f).length = len := by simp
    refine ⟨(List.range len).map f, some a, cap, by rw [hn], by rw [hn]; unfold maxLen at hm; omega, fun h0 => ?_, ?_⟩
    · rw [hn] at h0
      obtain ⟨b, off, spot⟩ := a
      have hspot : spot = none := by simpa [Addr.add] using World.cell?_spot (hf 0 (by omega)).1
      subst hspot
      refine ⟨b, off, rfl, cell_lt (by have := (hf 0 (by omega)).1; simpa [Addr.add] using this), fun j p hp => ?_⟩
      have hj : j < len := by
        have := (List.getElem?_eq_some_iff.1 hp).1
        omega
      have hp' : p = f j := by
        rw [List.getElem?_map, List.getElem?_range hj] at hp
        simpa using hp.symm
      subst hp'
      have c0 := (hf j hj).1
      rw [add_plain] at c0
      exact c0
    · intro p hp
      obtain ⟨i, hi', rfl⟩ := List.mem_map.1 hp
      exact (hf i (List.mem_range.1 hi')).2
end Go.Proofs.Ytlnheknhdabhdaa
