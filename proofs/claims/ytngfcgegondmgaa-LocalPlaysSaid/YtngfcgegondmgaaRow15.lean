/-
  Arguments opened: wants, ints, rows of ints, calls.
  Conditions: the reading itself.
-/
import Derived.Test.YtngfcgegondmgaaAside
import Derived.OpenShut
import Derived.ChangeSlices
import Derived.ChangeOld
import Derived.Deep.SlicePairs
import Derived.Deep.Slices
import Derived.Deep.Fields
import Derived.Lib.SmallJoins
set_option linter.unusedVariables false
namespace Go.Proofs.Ytngfcgegondmgaa
open Go.ChangeShapes Go.WideShapes Go.RowKit Go.Deep

theorem Try.ownKnob : ownKnob Try.prog.godebug = none := by kernel_rfl
theorem Try.laidOut : laidOutB Try.prog = true := by kernel_rfl
theorem Try.cellsInt : Try.prog.cellsOf 3 = 1 := by kernel_rfl
theorem Try.cellsInt1 : Try.prog.cellsOf 3 = 1 := by kernel_rfl
theorem Try.cellsInts : Try.prog.cellsOf 30 = 1 := by kernel_rfl
theorem Try.cellsWant : Try.prog.cellsOf 50 = 2 := by kernel_rfl
theorem Try.cellsAct : Try.prog.cellsOf 35 = 3 := by kernel_rfl

theorem cell_lt {w : World} {b o : Nat} {v : Value} (h : w.cell? ⟨b, o, none⟩ = some v) : b < w.heap.size := by
  rcases Nat.lt_or_ge b w.heap.size with h1 | h1
  · exact h1
  · simp [World.cell?, Array.getElem?_eq_none h1] at h
theorem bounds_i64 {n : Int} (h : (Lit.int .i64 n).wf = true) : -9223372036854775808 ≤ n ∧ n ≤ 9223372036854775807 := by
  have e1 : IntKind.i64.min = -9223372036854775808 := by decide +kernel
  have e2 : IntKind.i64.max = 9223372036854775807 := by decide +kernel
  simp [Lit.wf] at h
  omega
theorem nat_of_u8 {n : Int} (h : (Lit.int .u8 n).wf = true) : ∃ m : Nat, n = (m : Int) ∧ m < 256 := by
  have e1 : IntKind.u8.min = 0 := by decide +kernel
  have e2 : IntKind.u8.max = 255 := by decide +kernel
  simp [Lit.wf] at h
  exact ⟨n.toNat, by omega, by omega⟩
theorem nat_of_u16 {n : Int} (h : (Lit.int .u16 n).wf = true) : ∃ m : Nat, n = (m : Int) ∧ m < 65536 := by
  have e1 : IntKind.u16.min = 0 := by decide +kernel
  have e2 : IntKind.u16.max = 65535 := by decide +kernel
  simp [Lit.wf] at h
  exact ⟨n.toNat, by omega, by omega⟩
def numOf : Value → Int
  | .int _ q => q
  | _ => 0

theorem wants_open {H : Type} {enc : TypeId × Value → H} {W : World} {sp : Nat → Bool} {held : Bool} {fuel : Nat} {sv : Value} {x : DataW H × List MemPlace}
    (h : DataW.trod enc Try.prog W 0 sp held fuel 22 [sv] = some x) : ∃ ps, ArgAt W sv ps ∧ IntsS ps := by
  rcases open_slice_pairs Try.underlying22 Try.underlying50 Try.cellsWant rfl rfl Try.cellsInt Try.cellsInt h with ⟨hcs, _⟩ | ⟨a, len, cap, m, n, V0, V1, D0, D1, P0, P1, hcs, _, hl, hm, hmm, _, hcell⟩
  · simp only [List.cons.injEq, and_true] at hcs
    subst hcs
    exact ⟨[], ⟨none, 0, rfl, Nat.le_refl _, by simp, fun _ => rfl, fun h => absurd h (by simp)⟩, by intro s hs; cases hs⟩
  · simp only [List.cons.injEq, and_true] at hcs
    subst hcs
    have hlm : len ≤ m := by rw [hmm]; split <;> omega
    have hint : ∀ i, i < len → (V0 i = .int .i64 (numOf (V0 i)) ∧ -9223372036854775808 ≤ numOf (V0 i) ∧ numOf (V0 i) ≤ 9223372036854775807) ∧ (V1 i = .int .i64 (numOf (V1 i)) ∧ -9223372036854775808 ≤ numOf (V1 i) ∧ numOf (V1 i) ≤ 9223372036854775807) := by
      intro i hi
      obtain ⟨_, _, g0, g1⟩ := hcell i (by omega)
      obtain ⟨n0, e0, _, w0⟩ := DataW.trod_int Try.underlying3 g0
      obtain ⟨n1, e1, _, w1⟩ := DataW.trod_int Try.underlying3 g1
      simp only [List.cons.injEq, and_true] at e0 e1
      rw [e0, e1]
      exact ⟨⟨rfl, bounds_i64 w0⟩, rfl, bounds_i64 w1⟩
    have hn : ((List.range len).map fun i => (numOf (V0 i), numOf (V1 i))).length = len := by simp
    refine ⟨(List.range len).map fun i => (numOf (V0 i), numOf (V1 i)), ⟨some a, cap, by rw [hn], by rw [hn]; exact hl, by unfold maxLen at hm; omega, (fun h => by cases h), fun h0 => ?_⟩, fun s hs => ?_⟩
    · rw [hn] at h0
      obtain ⟨b, off, spot⟩ := a
      have hspot : spot = none := by simpa [Addr.add] using World.cell?_spot (hcell 0 (by omega)).1
      subst hspot
      refine ⟨b, off, rfl, cell_lt (by have := (hcell 0 (by omega)).1; simpa [Addr.add] using this), fun j p hp => ?_⟩
      have hj : j < len := by
        have := (List.getElem?_eq_some_iff.1 hp).1
        omega
      have hp' : p = (numOf (V0 j), numOf (V1 j)) := by
        rw [List.getElem?_map, List.getElem?_range hj] at hp
        simpa using hp.symm
      subst hp'
      obtain ⟨q0, q1, _⟩ := hcell j (by omega)
      rw [add_plain] at q0 q1
      exact ⟨by rw [q0, ← (hint j hj).1.1], by rw [Nat.add_assoc, q1, ← (hint j hj).2.1]⟩
    · obtain ⟨i, hi, rfl⟩ := List.mem_map.1 hs
      have hi' : i < len := by simpa using hi
      exact ⟨(hint i hi').1.2, (hint i hi').2.2⟩
theorem ints_open {H : Type} {enc : TypeId × Value → H} {W : World} {sp : Nat → Bool} {held : Bool} {fuel : Nat} {sv : Value} {x : DataW H × List MemPlace}
    (h : DataW.trod enc Try.prog W 0 sp held fuel 30 [sv] = some x) : ∃ xs, IntsAt W sv xs ∧ ∀ n ∈ xs, IntOk n := by
  rcases open_ints Try.underlying30 Try.underlying3 Try.cellsInt1 h with ⟨hcs, _⟩ | ⟨a, len, cap, zs, hcs, _, hl, hm, hz, _, hcell, hwf⟩
  · simp only [List.cons.injEq, and_true] at hcs
    subst hcs
    exact ⟨[], IntsAt.nil W, fun n hn => by cases hn⟩
  · simp only [List.cons.injEq, and_true] at hcs
    subst hcs
    have hlz : len ≤ zs.length := by rw [hz]; split <;> omega
    have hn : (zs.take len).length = len := by rw [List.length_take]; omega
    refine ⟨zs.take len, ⟨some a, cap, by rw [hn], by rw [hn]; exact hl, by unfold maxLen at hm; omega, fun h0 => ?_⟩, fun n hn => bounds_i64 (hwf n (List.mem_of_mem_take hn))⟩
    rw [hn] at h0
    obtain ⟨b, off, spot⟩ := a
    have hspot : spot = none := by simpa [Addr.add] using World.cell?_spot (hcell 0 (by omega))
    subst hspot
    refine ⟨b, off, rfl, cell_lt (by have := hcell 0 (by omega); simpa [Addr.add] using this), fun j y hy => ?_⟩
    have hj : j < len := by
      have := (List.getElem?_eq_some_iff.1 hy).1
      omega
    rw [List.getElem?_take, if_pos hj] at hy
    have hc := hcell j (by omega)
    rw [add_plain] at hc
    rw [hc]
    rw [List.getD_eq_getElem?_getD, hy]
    rfl

theorem rows_open {H : Type} {enc : TypeId × Value → H} {W : World} {sp : Nat → Bool} {held : Bool} {fuel : Nat} {sv : Value} {x : DataW H × List MemPlace}
    (h : DataW.trod enc Try.prog W 0 sp held fuel 52 [sv] = some x) : ∃ ls, RowsAt W sv ls := by
  rcases open_slice Try.underlying52 h with ⟨h1, _⟩ | ⟨a, len, cap, m, n, D, Pl, h1, _, hl, hm, hmm, _, hi⟩
  · simp only [List.cons.injEq, and_true] at h1
    subst h1
    exact ⟨[], RowsAt.nil W⟩
  · simp only [List.cons.injEq, and_true] at h1
    subst h1
    have hlm : len ≤ m := by rw [hmm]; split <;> omega
    have key : ∀ i, i < len → ∃ p : Value × List Int, W.cell? (a.add i) = some p.1 ∧ IntsAt W p.1 p.2 ∧ ∀ n ∈ p.2, IntOk n := by
      intro i hlt
      obtain ⟨cs', hc, ht⟩ := hi i (by omega)
      rw [Try.cellsInts, Nat.mul_one] at hc
      obtain ⟨_, hl1, hat⟩ := World.cells?_some hc
      have h0 := hat 0 (by decide)
      have e1 : cs' = [cs'.headD undef] := by
        cases cs' with
        | nil => simp at hl1
        | cons u r => cases r with
          | nil => rfl
          | cons u' r' => simp at hl1
      rw [e1] at ht
      obtain ⟨xs, hx⟩ := ints_open ht
      refine ⟨(cs'.headD undef, xs), ?_, hx⟩
      rw [e1] at h0
      rw [show a.add i = (a.add i).add 0 by unfold Addr.add; split <;> simp]
      exact h0
    obtain ⟨f, hf⟩ := choose_lt key
    have hn : ((List.range len).map f).length = len := by simp
    refine ⟨(List.range len).map f, some a, cap, by rw [hn], by rw [hn]; exact hl, by unfold maxLen at hm; omega, fun h0 => ?_, ?_⟩
    · rw [hn] at h0
      obtain ⟨b, off, spot⟩ := a
      have hspot : spot = none := by simpa [Addr.add] using World.cell?_spot (hf 0 (by omega)).1
      subst hspot
      refine ⟨b, off, rfl, cell_lt (by have := (hf 0 (by omega)).1; simpa [Addr.add] using this), fun j p hp => ?_⟩
      have hj : j < len := by
        have := (List.getElem?_eq_some_iff.1 hp).1
        omega
      have hp' : p = f j := by
        rw [List.getElem?_map, List.getElem?_range hj] at hp
        simpa using hp.symm
      subst hp'
      have c0 := (hf j hj).1
      rw [add_plain] at c0
      exact c0
    · intro p hp
      obtain ⟨i, hi', rfl⟩ := List.mem_map.1 hp
      exact (hf i (List.mem_range.1 hi')).2

/-! ### Calls -/
/-- A call: its kind, the units that are off, the unit. -/
abbrev ActH := Int × (Value × List Int) × Int
def ActOk (a : ActH) : Prop := IntOk a.1 ∧ (∀ n ∈ a.2.1.2, IntOk n) ∧ IntOk a.2.2
def ActsAt (W : World) (v : Value) (l : List ActH) : Prop :=
  ∃ A c, v = .slice A l.length c ∧ l.length ≤ 9223372036854775807 ∧
    (0 < l.length → ∃ b off, A = some ⟨b, off, none⟩ ∧ b < W.heap.size ∧ ∀ (j : Nat) (a : ActH), l[j]? = some a → W.cell? ⟨b, off + j * 3, none⟩ = some (.int .i64 a.1) ∧ W.cell? ⟨b, off + j * 3 + 1, none⟩ = some a.2.1.1 ∧ W.cell? ⟨b, off + j * 3 + 2, none⟩ = some (.int .i64 a.2.2)) ∧
    ∀ a ∈ l, IntsAt W a.2.1.1 a.2.1.2
theorem list3 {α : Type} {l : List α} (h : l.length = 3) : ∃ a b c, l = [a, b, c] := by
  cases l with
  | nil => cases h
  | cons a l => cases l with
    | nil => cases h
    | cons b l => cases l with
      | nil => cases h
      | cons c l => cases l with
        | nil => exact ⟨a, b, c, rfl⟩
        | cons e l => cases h
instance : Inhabited ActH := ⟨(0, (undef, []), 0)⟩
section
variable {H : Type} {enc : TypeId × Value → H} {W : World} {sp : Nat → Bool} {held : Bool}

theorem act_of_cells {fuel : Nat} {cs : List Value} {x : DataW H × List MemPlace} (h : DataW.trod enc Try.prog W 0 sp held fuel 35 cs = some x) :
    ∃ a : ActH, ActOk a ∧ IntsAt W a.2.1.1 a.2.1.2 ∧ cs = [.int .i64 a.1, a.2.1.1, .int .i64 a.2.2] := by
  obtain ⟨xs, n, _, _, hlen, hxs, hf⟩ := DataW.trod_struct Try.underlying35 h
  rw [Try.cellsAct] at hlen
  obtain ⟨v0, v1, v2, rfl⟩ := list3 hlen
  obtain ⟨x0, x1, x2, rfl⟩ := list3 (show xs.length = 3 from hxs)
  have g0 : DataW.trod enc Try.prog W 0 sp held n 3 (([v0, v1, v2].drop 0).take (Try.prog.cellsOf 3)) = some x0 := hf 0 _ rfl
  have g1 : DataW.trod enc Try.prog W 0 sp held n 30 (([v0, v1, v2].drop 1).take (Try.prog.cellsOf 30)) = some x1 := hf 1 _ rfl
  have g2 : DataW.trod enc Try.prog W 0 sp held n 3 (([v0, v1, v2].drop 2).take (Try.prog.cellsOf 3)) = some x2 := hf 2 _ rfl
  rw [Try.cellsInt] at g0 g2
  rw [Try.cellsInts] at g1
  simp only [List.drop_succ_cons, List.drop_zero, List.take_succ_cons, List.take_zero] at g0 g1 g2
  obtain ⟨k, e0, _, w0⟩ := DataW.trod_int Try.underlying3 g0
  obtain ⟨xs, hx, hxo⟩ := ints_open g1
  obtain ⟨u, e2, _, w2⟩ := DataW.trod_int Try.underlying3 g2
  simp only [List.cons.injEq, and_true] at e0 e2
  exact ⟨(k, (v1, xs), u), ⟨bounds_i64 w0, hxo, bounds_i64 w2⟩, hx, by rw [e0, e2]⟩

theorem acts_open {fuel : Nat} {sv : Value} {x : DataW H × List MemPlace} (h : DataW.trod enc Try.prog W 0 sp held fuel 23 [sv] = some x) :
    ∃ acts : List ActH, ActsAt W sv acts ∧ ∀ a ∈ acts, ActOk a := by
  rcases open_slice Try.underlying23 h with ⟨h1, _⟩ | ⟨a, len, cap, m, n, D, Pl, h1, _, hl, hm, hmm, _, hi⟩
  · simp only [List.cons.injEq, and_true] at h1
    subst h1
    exact ⟨[], ⟨none, 0, rfl, by simp, fun h => absurd h (by simp), fun a ha => by cases ha⟩, fun a ha => by cases ha⟩
  · simp only [List.cons.injEq, and_true] at h1
    subst h1
    have hlm : len ≤ m := by rw [hmm]; split <;> omega
    have key : ∀ i, i < len → ∃ x : ActH, (ActOk x ∧ IntsAt W x.2.1.1 x.2.1.2) ∧ W.cell? (a.add (i * 3 + 0)) = some (.int .i64 x.1) ∧ W.cell? (a.add (i * 3 + 1)) = some x.2.1.1 ∧ W.cell? (a.add (i * 3 + 2)) = some (.int .i64 x.2.2) := by
      intro i hlt
      obtain ⟨cs', hc, ht⟩ := hi i (by omega)
      rw [Try.cellsAct] at hc
      obtain ⟨x, hok, hx, rfl⟩ := act_of_cells ht
      obtain ⟨_, _, hat⟩ := World.cells?_some hc
      refine ⟨x, ⟨hok, hx⟩, ?_, ?_, ?_⟩
      · rw [← Go.Deep.add_add, hat 0 (by decide)]; rfl
      · rw [← Go.Deep.add_add, hat 1 (by decide)]; rfl
      · rw [← Go.Deep.add_add, hat 2 (by decide)]; rfl
    obtain ⟨f, hf⟩ := choose_lt key
    have hn : ((List.range len).map f).length = len := by simp
    refine ⟨(List.range len).map f, ⟨some a, cap, by rw [hn], by rw [hn]; unfold maxLen at hm; omega, fun h0 => ?_, ?_⟩, ?_⟩
    · rw [hn] at h0
      obtain ⟨b, off, spot⟩ := a
      have hspot : spot = none := by simpa [Addr.add] using World.cell?_spot (hf 0 (by omega)).2.1
      subst hspot
      refine ⟨b, off, rfl, cell_lt (by have := (hf 0 (by omega)).2.1; simpa [Addr.add] using this), fun j p hp => ?_⟩
      have hj : j < len := by
        have := (List.getElem?_eq_some_iff.1 hp).1
        omega
      have hp' : p = f j := by
        rw [List.getElem?_map, List.getElem?_range hj] at hp
        simpa using hp.symm
      subst hp'
      obtain ⟨_, c0, c1, c2⟩ := hf j hj
      rw [add_plain] at c0 c1 c2
      simp only [← Nat.add_assoc, Nat.add_zero] at c0 c1 c2
      exact ⟨c0, c1, c2⟩
    · intro x hx
      obtain ⟨i, hi', rfl⟩ := List.mem_map.1 hx
      exact (hf i (List.mem_range.1 hi')).1.2
    · intro x hx
      obtain ⟨i, hi', rfl⟩ := List.mem_map.1 hx
      exact (hf i (List.mem_range.1 hi')).1.1
end
end Go.Proofs.Ytngfcgegondmgaa
