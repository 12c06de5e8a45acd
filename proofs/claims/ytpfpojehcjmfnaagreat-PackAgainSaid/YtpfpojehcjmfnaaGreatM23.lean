/-
  The law of all wants: PackAll.
  Conditions: the slices read as wants; the numbers are of their kinds.
-/
import Derived.Test.YtpfpojehcjmfnaaGreatM01
import Derived.OpenShut
import Derived.ChangeSlices
import Derived.ChangeOld
import Derived.ChangeArms
import Derived.Deep.SlicePairs
import Derived.Deep.Slices
import Derived.Deep.Fields
import Derived.Lib.SmallJoins
import Derived.Test.YtpfpojehcjmfnaaGreatM22
import Derived.Test.YtpfpojehcjmfnaaGreatM11
import Derived.Test.YtpfpojehcjmfnaaGreatM13
import Derived.Test.YtpfpojehcjmfnaaGreatM15
import Derived.Test.YtpfpojehcjmfnaaGreatM20
import Derived.Test.YtpfpojehcjmfnaaGreatM16
import Derived.Test.YtpfpojehcjmfnaaGreatM21
import Derived.Test.YtpfpojehcjmfnaaGreatM03

/-
  An argument that is a plan, opened: its frame, its cores, its places, each with its pieces.
  Conditions: the reading itself.
-/
set_option linter.unusedVariables false
namespace Go.Proofs.YtpfpojehcjmfnaaGreat
open Go.ChangeShapes Go.WideShapes Go.RowKit Go.Deep

theorem Tryz.ownKnob : ownKnob Tryz.prog.godebug = none := by kernel_rfl
theorem Tryz.laidOut : laidOutB Tryz.prog = true := by kernel_rfl
theorem Tryz.cellsInt : Tryz.prog.cellsOf 3 = 1 := by kernel_rfl
theorem Tryz.cellsU64 : Tryz.prog.cellsOf 82 = 1 := by kernel_rfl
theorem Tryz.cellsPcs : Tryz.prog.cellsOf 46 = 1 := by kernel_rfl
theorem Tryz.cellsPc : Tryz.prog.cellsOf 84 = 2 := by kernel_rfl
theorem Tryz.cellsPl : Tryz.prog.cellsOf 48 = 4 := by kernel_rfl
theorem Tryz.cellsPn : Tryz.prog.cellsOf 26 = 3 := by kernel_rfl

theorem cell_lt {w : World} {b o : Nat} {v : Value} (h : w.cell? ⟨b, o, none⟩ = some v) : b < w.heap.size := by
  rcases Nat.lt_or_ge b w.heap.size with h1 | h1
  · exact h1
  · simp [World.cell?, Array.getElem?_eq_none h1] at h
theorem bounds_i64 {n : Int} (h : (Lit.int .i64 n).wf = true) : -9223372036854775808 ≤ n ∧ n ≤ 9223372036854775807 := by
  have e1 : IntKind.i64.min = -9223372036854775808 := by decide +kernel
  have e2 : IntKind.i64.max = 9223372036854775807 := by decide +kernel
  simp [Lit.wf] at h
  omega
theorem nat_of_u64 {n : Int} (h : (Lit.int .u64 n).wf = true) : ∃ m : Nat, n = (m : Int) ∧ m < 18446744073709551616 := by
  have e1 : IntKind.u64.min = 0 := by decide +kernel
  have e2 : IntKind.u64.max = 18446744073709551615 := by decide +kernel
  simp [Lit.wf] at h
  exact ⟨n.toNat, by omega, by omega⟩
theorem nat_of_u32 {n : Int} (h : (Lit.int .u32 n).wf = true) : ∃ m : Nat, n = (m : Int) ∧ m < 4294967296 := by
  have e1 : IntKind.u32.min = 0 := by decide +kernel
  have e2 : IntKind.u32.max = 4294967295 := by decide +kernel
  simp [Lit.wf] at h
  exact ⟨n.toNat, by omega, by omega⟩
def numOf : Value → Int
  | .int _ q => q
  | _ => 0
theorem array3 {α : Type} {cs : Array α} (h : cs.size = 3) : ∃ c0 c1 c2, cs = #[c0, c1, c2] := by
  obtain ⟨l⟩ := cs
  match l, h with
  | [c0, c1, c2], _ => exact ⟨c0, c1, c2, rfl⟩
theorem list3 {α : Type} {xs : List α} (h : xs.length = 3) : ∃ c0 c1 c2, xs = [c0, c1, c2] := by
  match xs, h with
  | [c0, c1, c2], _ => exact ⟨c0, c1, c2, rfl⟩
theorem list4 {α : Type} {xs : List α} (h : xs.length = 4) : ∃ c0 c1 c2 c3, xs = [c0, c1, c2, c3] := by
  match xs, h with
  | [c0, c1, c2, c3], _ => exact ⟨c0, c1, c2, c3, rfl⟩

/-- A struct of three one-cell fields, by value, opened. -/
theorem open_three {H : Type} {enc : TypeId × Value → H} {P : Program} {w : World} {base : Nat} {spare : Nat → Bool} {held : Bool} {r : Reach} {b0 : Nat} {t : TypeId} {f0 f1 f2 : Field} {v : Value} {d : DataW H} {p : List MemPlace} (hs : P.underlying t = some (.struct #[f0, f1, f2]))
    (hone : Go.Deep.oneCellFields P #[f0, f1, f2] = true) (hC : P.cellsOf t = 3) (hv : Value.okWide P w r b0 t v) (h : DataW.Trod enc P w base spare held t v d p) :
    ∃ (v0 v1 v2 : Value) (y0 y1 y2 : DataW H × List MemPlace) (n : Nat), v = .agg #[v0, v1, v2] ∧
      DataW.trod enc P w base spare held n f0.type [v0] = some y0 ∧ DataW.trod enc P w base spare held n f1.type [v1] = some y1 ∧ DataW.trod enc P w base spare held n f2.type [v2] = some y2 := by
  obtain ⟨cs, rfl, hsz⟩ := okWide_struct hs hv
  obtain ⟨c0, c1, c2, rfl⟩ := array3 (hsz.trans hC)
  obtain ⟨fuel, hf⟩ := h
  obtain ⟨xs, n, _, _, _, hlen, hfld⟩ := DataW.trod_struct hs hf
  obtain ⟨y0, y1, y2, rfl⟩ := list3 hlen
  have g0 := hfld 0 f0 rfl
  obtain ⟨o0, k0⟩ := Go.Deep.hone_of hone 0 f0 rfl
  have g1 := hfld 1 f1 rfl
  obtain ⟨o1, k1⟩ := Go.Deep.hone_of hone 1 f1 rfl
  have g2 := hfld 2 f2 rfl
  obtain ⟨o2, k2⟩ := Go.Deep.hone_of hone 2 f2 rfl
  exact ⟨c0, c1, c2, y0, y1, y2, n, rfl, by simpa [Value.cells, o0, k0] using g0, by simpa [Value.cells, o1, k1] using g1, by simpa [Value.cells, o2, k2] using g2⟩

section
variable {H : Type} {enc : TypeId × Value → H} {W : World} {sp : Nat → Bool} {held : Bool}
theorem pcs_open {fuel : Nat} {sv : Value} {x : DataW H × List MemPlace} (h : DataW.trod enc Tryz.prog W 0 sp held fuel 46 [sv] = some x) : ∃ ps, PcsAt W sv ps ∧ ∀ y ∈ ps, PcOk y := by
  rcases open_slice_pairs Tryz.underlying46 Tryz.underlying84 Tryz.cellsPc rfl rfl Tryz.cellsInt Tryz.cellsU64 h with ⟨hcs, _⟩ | ⟨a, len, cap, m, n, V0, V1, D0, D1, P0, P1, hcs, _, hl, hm, hmm, _, hcell⟩
  · simp only [List.cons.injEq, and_true] at hcs
    subst hcs
    exact ⟨[], PcsIn.nil _ W, by intro s hs; cases hs⟩
  · simp only [List.cons.injEq, and_true] at hcs
    subst hcs
    have hlm : len ≤ m := by rw [hmm]; split <;> omega
    have hint : ∀ i, i < len → (V0 i = .int .i64 (numOf (V0 i)) ∧ Int64 (numOf (V0 i))) ∧ (V1 i = .int .u64 ((numOf (V1 i)).toNat : Nat) ∧ (numOf (V1 i)).toNat < 18446744073709551616) := by
      intro i hi
      obtain ⟨_, _, g0, g1⟩ := hcell i (by omega)
      obtain ⟨n0, e0, _, w0⟩ := DataW.trod_int Tryz.underlying3 g0
      obtain ⟨n1, e1, _, w1⟩ := DataW.trod_int Tryz.underlying82 g1
      obtain ⟨k1, rfl, hk1⟩ := nat_of_u64 w1
      simp only [List.cons.injEq, and_true] at e0 e1
      rw [e0, e1]
      exact ⟨⟨rfl, bounds_i64 w0⟩, by simp [numOf], by simpa [numOf] using hk1⟩
    have hn : ((List.range len).map fun i => (⟨numOf (V0 i), (numOf (V1 i)).toNat⟩ : Pc)).length = len := by simp
    refine ⟨(List.range len).map fun i => ⟨numOf (V0 i), (numOf (V1 i)).toNat⟩, ⟨some a, cap, by rw [hn], by rw [hn]; exact hl, by unfold maxLen at hm; omega, fun h0 => ?_⟩, fun s hs => ?_⟩
    · rw [hn] at h0
      obtain ⟨b, off, spot⟩ := a
      have hspot : spot = none := by simpa [Addr.add] using World.cell?_spot (hcell 0 (by omega)).1
      subst hspot
      refine ⟨b, off, rfl, cell_lt (by have := (hcell 0 (by omega)).1; simpa [Addr.add] using this), trivial, fun j p hp => ?_⟩
      have hj : j < len := by
        have := (List.getElem?_eq_some_iff.1 hp).1
        omega
      have hp' : p = ⟨numOf (V0 j), (numOf (V1 j)).toNat⟩ := by
        rw [List.getElem?_map, List.getElem?_range hj] at hp
        simpa using hp.symm
      subst hp'
      obtain ⟨q0, q1, _⟩ := hcell j (by omega)
      rw [add_plain] at q0 q1
      exact ⟨by rw [q0, ← (hint j hj).1.1], by rw [Nat.add_assoc, q1, ← (hint j hj).2.1]⟩
    · obtain ⟨i, hi, rfl⟩ := List.mem_map.1 hs
      have hi' : i < len := by simpa using hi
      exact ⟨(hint i hi').1.2, (hint i hi').2.2⟩
theorem place_of_cells {fuel : Nat} {cs : List Value} {x : DataW H × List MemPlace} (h : DataW.trod enc Tryz.prog W 0 sp held fuel 48 cs = some x) :
    ∃ p : Value × Pl, PlOk p.2 ∧ PcsAt W p.1 p.2.ps ∧ cs = [.int .i64 p.2.u, .int .i64 p.2.s, .int .i64 p.2.c, p.1] := by
  obtain ⟨xs, n, _, _, hlen, hxs, hf⟩ := DataW.trod_struct Tryz.underlying48 h
  rw [Tryz.cellsPl] at hlen
  obtain ⟨v0, v1, v2, v3, rfl⟩ := list4 hlen
  obtain ⟨x0, x1, x2, x3, rfl⟩ := list4 (show xs.length = 4 from hxs)
  have g0 : DataW.trod enc Tryz.prog W 0 sp held n 3 (([v0, v1, v2, v3].drop 0).take (Tryz.prog.cellsOf 3)) = some x0 := hf 0 _ rfl
  have g1 : DataW.trod enc Tryz.prog W 0 sp held n 3 (([v0, v1, v2, v3].drop 1).take (Tryz.prog.cellsOf 3)) = some x1 := hf 1 _ rfl
  have g2 : DataW.trod enc Tryz.prog W 0 sp held n 3 (([v0, v1, v2, v3].drop 2).take (Tryz.prog.cellsOf 3)) = some x2 := hf 2 _ rfl
  have g3 : DataW.trod enc Tryz.prog W 0 sp held n 46 (([v0, v1, v2, v3].drop 3).take (Tryz.prog.cellsOf 46)) = some x3 := hf 3 _ rfl
  rw [Tryz.cellsInt] at g0 g1 g2
  rw [Tryz.cellsPcs] at g3
  simp only [List.drop_succ_cons, List.drop_zero, List.take_succ_cons, List.take_zero] at g0 g1 g2 g3
  obtain ⟨n0, e0, _, w0⟩ := DataW.trod_int Tryz.underlying3 g0
  obtain ⟨n1, e1, _, w1⟩ := DataW.trod_int Tryz.underlying3 g1
  obtain ⟨n2, e2, _, w2⟩ := DataW.trod_int Tryz.underlying3 g2
  obtain ⟨ps, hx, hxo⟩ := pcs_open g3
  simp only [List.cons.injEq, and_true] at e0 e1 e2
  exact ⟨(v3, ⟨n0, n1, n2, ps⟩), ⟨bounds_i64 w0, bounds_i64 w1, bounds_i64 w2, hxo⟩, hx, by rw [e0, e1, e2]⟩
instance : Inhabited (Value × Pl) := ⟨(undef, default)⟩
theorem pls_open {fuel : Nat} {sv : Value} {x : DataW H × List MemPlace} (h : DataW.trod enc Tryz.prog W 0 sp held fuel 24 [sv] = some x) :
    ∃ l : List Pl, PlsAt W sv l ∧ ∀ x ∈ l, PlOk x := by
  rcases open_slice Tryz.underlying24 h with ⟨h1, _⟩ | ⟨a, len, cap, m, n, D, Pm, h1, _, hl, hm, hmm, _, hi⟩
  · simp only [List.cons.injEq, and_true] at h1
    subst h1
    exact ⟨[], PlsIn.nil _ W, fun a ha => by cases ha⟩
  · simp only [List.cons.injEq, and_true] at h1
    subst h1
    have hlm : len ≤ m := by rw [hmm]; split <;> omega
    have key : ∀ i, i < len → ∃ x : Value × Pl, (PlOk x.2 ∧ PcsAt W x.1 x.2.ps) ∧ W.cell? (a.add (i * 4 + 0)) = some (.int .i64 x.2.u) ∧ W.cell? (a.add (i * 4 + 1)) = some (.int .i64 x.2.s) ∧ W.cell? (a.add (i * 4 + 2)) = some (.int .i64 x.2.c) ∧ W.cell? (a.add (i * 4 + 3)) = some x.1 := by
      intro i hlt
      obtain ⟨cs', hc, ht⟩ := hi i (by omega)
      rw [Tryz.cellsPl] at hc
      obtain ⟨x, hok, hx, rfl⟩ := place_of_cells ht
      obtain ⟨_, _, hat⟩ := World.cells?_some hc
      refine ⟨x, ⟨hok, hx⟩, ?_, ?_, ?_, ?_⟩
      · rw [← Go.Deep.add_add, hat 0 (by decide)]; rfl
      · rw [← Go.Deep.add_add, hat 1 (by decide)]; rfl
      · rw [← Go.Deep.add_add, hat 2 (by decide)]; rfl
      · rw [← Go.Deep.add_add, hat 3 (by decide)]; rfl
    obtain ⟨f, hf⟩ := choose_lt key
    have hn : ((List.range len).map f).length = len := by simp
    refine ⟨plsOf ((List.range len).map f), ⟨(List.range len).map f, rfl, some a, cap, by rw [hn], by rw [hn]; exact hl, by unfold maxLen at hm; omega, fun h0 => ?_, ?_⟩, ?_⟩
    · rw [hn] at h0
      obtain ⟨b, off, spot⟩ := a
      have hspot : spot = none := by simpa [Addr.add] using World.cell?_spot (hf 0 (by omega)).2.1
      subst hspot
      refine ⟨b, off, rfl, cell_lt (by have := (hf 0 (by omega)).2.1; simpa [Addr.add] using this), trivial, fun j p hp => ?_⟩
      have hj : j < len := by
        have := (List.getElem?_eq_some_iff.1 hp).1
        omega
      have hp' : p = f j := by
        rw [List.getElem?_map, List.getElem?_range hj] at hp
        simpa using hp.symm
      subst hp'
      obtain ⟨_, c0, c1, c2, c3⟩ := hf j hj
      rw [add_plain] at c0 c1 c2 c3
      simp only [← Nat.add_assoc, Nat.add_zero] at c0 c1 c2 c3
      exact ⟨c0, c1, c2, c3⟩
    · intro x hx
      obtain ⟨i, hi', rfl⟩ := List.mem_map.1 hx
      exact (hf i (List.mem_range.1 hi')).1.2
    · intro x hx
      obtain ⟨p, hp, rfl⟩ := List.mem_map.1 hx
      obtain ⟨i, hi', rfl⟩ := List.mem_map.1 hp
      exact (hf i (List.mem_range.1 hi')).1.1
set_option maxRecDepth 100000 in
theorem plan_open {r : Reach} {b0 : Nat} {v : Value} {d : DataW H} {p : List MemPlace}
    (hv : Value.okWide Tryz.prog W r b0 26 v) (h : DataW.Trod enc Tryz.prog W 0 sp held 26 v d p) : ∃ (f : Int) (m : Nat) (u : Value) (l : List Pl), v = planA f m u ∧ PlsAt W u l ∧ (∀ x ∈ l, PlOk x) ∧ m < 4294967296 ∧ Int64 f := by
  obtain ⟨v0, v1, v2, y0, y1, y2, n, rfl, g0, g1, g2⟩ := open_three Tryz.underlying26 (by kernel_rfl) Tryz.cellsPn hv h
  obtain ⟨n0, e0, _, w0⟩ := DataW.trod_int Tryz.underlying3 g0
  obtain ⟨n1, e1, _, w1⟩ := DataW.trod_int Tryz.underlying22 g1
  obtain ⟨k1, rfl, hk1⟩ := nat_of_u32 w1
  obtain ⟨l, hl, ho⟩ := pls_open g2
  simp only [List.cons.injEq, and_true] at e0 e1
  subst e0 e1
  exact ⟨n0, k1, v2, l, rfl, hl, ho, hk1, bounds_i64 w0⟩
end
end Go.Proofs.YtpfpojehcjmfnaaGreat

/-
  An argument that is a slice of wants, opened: the pairs of ints that it reads as.
  Conditions: the reading itself.
-/
set_option linter.unusedVariables false
namespace Go.Proofs.YtpfpojehcjmfnaaGreat
open Go.ChangeShapes Go.WideShapes Go.RowKit Go.Deep

theorem Tryz.cellsWant : Tryz.prog.cellsOf 52 = 2 := by kernel_rfl
theorem wants_open {H : Type} {enc : TypeId × Value → H} {W : World} {sp : Nat → Bool} {held : Bool} {fuel : Nat} {sv : Value} {x : DataW H × List MemPlace}
    (h : DataW.trod enc Tryz.prog W 0 sp held fuel 23 [sv] = some x) : ∃ ps, ArgAt W sv ps ∧ IntsS ps := by
  rcases open_slice_pairs Tryz.underlying23 Tryz.underlying52 Tryz.cellsWant rfl rfl Tryz.cellsInt Tryz.cellsInt h with ⟨hcs, _⟩ | ⟨a, len, cap, m, n, V0, V1, D0, D1, P0, P1, hcs, _, hl, hm, hmm, _, hcell⟩
  · simp only [List.cons.injEq, and_true] at hcs
    subst hcs
    exact ⟨[], ⟨none, 0, rfl, Nat.le_refl _, by simp, fun _ => rfl, fun h => absurd h (by simp)⟩, by intro s hs; cases hs⟩
  · simp only [List.cons.injEq, and_true] at hcs
    subst hcs
    have hlm : len ≤ m := by rw [hmm]; split <;> omega
    have hint : ∀ i, i < len → (V0 i = .int .i64 (numOf (V0 i)) ∧ -9223372036854775808 ≤ numOf (V0 i) ∧ numOf (V0 i) ≤ 9223372036854775807) ∧ (V1 i = .int .i64 (numOf (V1 i)) ∧ -9223372036854775808 ≤ numOf (V1 i) ∧ numOf (V1 i) ≤ 9223372036854775807) := by
      intro i hi
      obtain ⟨_, _, g0, g1⟩ := hcell i (by omega)
      obtain ⟨n0, e0, _, w0⟩ := DataW.trod_int Tryz.underlying3 g0
      obtain ⟨n1, e1, _, w1⟩ := DataW.trod_int Tryz.underlying3 g1
      simp only [List.cons.injEq, and_true] at e0 e1
      rw [e0, e1]
      exact ⟨⟨rfl, bounds_i64 w0⟩, rfl, bounds_i64 w1⟩
    have hn : ((List.range len).map fun i => (numOf (V0 i), numOf (V1 i))).length = len := by simp
    refine ⟨(List.range len).map fun i => (numOf (V0 i), numOf (V1 i)), ⟨some a, cap, by rw [hn], by rw [hn]; exact hl, by unfold maxLen at hm; omega, (fun h => by cases h), fun h0 => ?_⟩, fun s hs => ?_⟩
    · rw [hn] at h0
      obtain ⟨b, off, spot⟩ := a
      have hspot : spot = none := by simpa [Addr.add] using World.cell?_spot (hcell 0 (by omega)).1
      subst hspot
      refine ⟨b, off, rfl, cell_lt (by have := (hcell 0 (by omega)).1; simpa [Addr.add] using this), fun j p hp => ?_⟩
      have hj : j < len := by
        have := (List.getElem?_eq_some_iff.1 hp).1
        omega
      have hp' : p = (numOf (V0 j), numOf (V1 j)) := by
        rw [List.getElem?_map, List.getElem?_range hj] at hp
        simpa using hp.symm
      subst hp'
      obtain ⟨q0, q1, _⟩ := hcell j (by omega)
      rw [add_plain] at q0 q1
      exact ⟨by rw [q0, ← (hint j hj).1.1], by rw [Nat.add_assoc, q1, ← (hint j hj).2.1]⟩
    · obtain ⟨i, hi, rfl⟩ := List.mem_map.1 hs
      have hi' : i < len := by simpa using hi
      exact ⟨(hint i hi').1.2, (hint i hi').2.2⟩
end Go.Proofs.YtpfpojehcjmfnaaGreat

/-
  When it is sure that nobody is left over, of the program.
  Conditions: the slice reads as wants; the numbers are ints.
-/
set_option linter.unusedVariables false
set_option linter.unusedSimpArgs false
namespace Go.Proofs.YtpfpojehcjmfnaaGreat
open Go.RowKit

/-- What wants are that are right: few, and small. -/
theorem chk_small {f : Int} {ws : List Sp} (h : chkT f ws = 0) : (2 ≤ f ∧ f ≤ 64) ∧ (∀ w ∈ ws, 1 ≤ w.2 ∧ w.2 ≤ 64) ∧ ∀ k, (0 ≤ sumS (ws.take k) ∧ sumS (ws.take k) ≤ 20000) ∧ 0 ≤ maxT (ws.take k) ∧ maxT (ws.take k) ≤ 64 := by
  obtain ⟨hf, hw⟩ := WOk.of_chk h
  have hall : ∀ w ∈ ws, 1 ≤ w.2 ∧ w.2 ≤ 64 := fun w hm => by
    have := hw.all w hm
    omega
  refine ⟨hf, hall, fun k => ⟨?_, maxT_nonneg _, maxT_bound (by decide) _ fun w hm => (hall w (List.mem_of_mem_take hm)).2⟩⟩
  have h1 := sumS_bound (ws.take k) fun w hm => by
    have := hall w (List.mem_of_mem_take hm)
    omega
  have h2 := few_wants h
  have h3 : (ws.take k).length ≤ 240 := by rw [List.length_take]; omega
  omega
theorem sure_yes {f c : Int} {ws : List Sp} (h : chkT f ws = 0) (hc : 1 ≤ c ∧ c ≤ 16) : sureT f c ws = decide (sumS ws + (c - 1) * maxT ws < c * f + c) := by
  unfold sureT
  rw [decide_eq_true h, decide_eq_true hc, Bool.true_and, Bool.true_and]
theorem sure_core {f c : Int} {ws : List Sp} (hc : ¬ (1 ≤ c ∧ c ≤ 16)) : sureT f c ws = false := by
  unfold sureT
  rw [decide_eq_false hc, Bool.false_and, Bool.and_false]
theorem sure_chk {f c : Int} {ws : List Sp} (h : chkT f ws ≠ 0) : sureT f c ws = false := by
  unfold sureT
  rw [decide_eq_false h, Bool.false_and]
end Go.Proofs.YtpfpojehcjmfnaaGreat

/-
  When it is sure that nobody is left over, of the document.
  Conditions: the slice reads as wants; the numbers are ints.
-/
set_option linter.unusedVariables false
set_option linter.unusedSimpArgs false
namespace Go.Proofs.YtpfpojehcjmfnaaGreat
open Go.RowKit

theorem tot_smallS : ∀ (ws : List Sp) (t : Int), (∀ w ∈ ws, 0 ≤ w.2 ∧ w.2 ≤ 64) → 0 ≤ t → t + 64 * (ws.length : Int) ≤ 1000000 → totL t ws = some (t + sumS ws)
  | [], t, _, _, _ => by rw [totL, sumS, Int.add_zero]
  | y :: r, t, h, h0, h1 => by
    have hy := h y (by simp)
    rw [List.length_cons] at h1
    have ha : addO t y.2 = some (t + y.2) := if_pos (by omega)
    rw [totL_some ha, tot_smallS r (t + y.2) (fun w hw => h w (by simp [hw])) (by omega) (by omega), sumS, Int.add_assoc]
theorem tot_chkS {f : Int} {ws : List Sp} (h : chkT f ws = 0) : totT ws = some (sumS ws) := by
  obtain ⟨_, hall, _⟩ := chk_small h
  have h2 := few_wants h
  have := tot_smallS ws 0 (fun w hw => by have := hall w hw; omega) (by omega) (by omega)
  rwa [Int.zero_add] at this

set_option maxRecDepth 100000 in
set_option maxHeartbeats 4000000 in
theorem refSure_any (f c : Int) (v : Value) (ws : List Sp) (w : World) (h : SpansAt w v ws) (hi : IntsS ws) :
    Calls Tryz.prog 23 #[.int .i64 f, .int .i64 c, v] w (RetB (.bool (sureT f c ws)) w) := by
  have HCK := Lib.hid (refCheck_any f v ws w h hi)
  obtain ⟨E, hE⟩ : ∃ E, chkT f ws = E := ⟨_, rfl⟩
  rw [hE] at HCK
  by_cases he : E = 0
  · subst he
    by_cases hc1 : c < 1
    · have HR : Hid (sureT f c ws = false) := Lib.hid (sure_core (by omega))
      obtain ⟨A, d, rfl, _⟩ := h
      clear hE hi
      go_enter Tryz.func23, Tryz.ntmps23
      go_wp2_with fail
      refine HCK.out.mono ?_
      rintro e w1 ⟨rfl, hb1⟩
      have HB1 := Lib.hid hb1
      clear hb1
      go_wp2_with fail
      go_ret
      exact ⟨by rw [HR.out]; rfl, HB1.out⟩
    · by_cases hc2 : 16 < c
      · have HR : Hid (sureT f c ws = false) := Lib.hid (sure_core (by omega))
        obtain ⟨A, d, rfl, _⟩ := h
        clear hE hi
        go_enter Tryz.func23, Tryz.ntmps23
        go_wp2_with fail
        refine HCK.out.mono ?_
        rintro e w1 ⟨rfl, hb1⟩
        have HB1 := Lib.hid hb1
        clear hb1
        go_wp2_with fail
        go_ret
        exact ⟨by rw [HR.out]; rfl, HB1.out⟩
      · have HTO := Lib.hid (fun w h => refTotal_any v ws w h hi)
        rw [tot_chkS hE] at HTO
        obtain ⟨hf, hall, hk⟩ := chk_small hE
        have HALL := Lib.hid hall
        have HK := Lib.hid hk
        have HSU := Lib.hid (sure_yes (c := c) hE (by omega))
        rw [HSU.out]
        obtain ⟨hf1, hf2⟩ := hf
        obtain ⟨cf, hcf⟩ : ∃ cf, c * f = cf := ⟨_, rfl⟩
        have hcfb : 0 ≤ cf ∧ cf ≤ 1024 := by
          rw [← hcf]
          refine ⟨Int.mul_nonneg (by omega) (by omega), ?_⟩
          have := Int.mul_le_mul (a := c) (b := f) (c := 16) (d := 64) (by omega) (by omega) (by omega) (by omega)
          omega
        rw [hcf]
        obtain ⟨hcf0, hcf1⟩ := hcfb
        have HS := Lib.hid h
        obtain ⟨A, d, rfl, hd1, hd3, hd2, hat⟩ := h
        have HAT := Lib.hid hat
        obtain ⟨T, hT⟩ : ∃ T, sumS ws = T := ⟨_, rfl⟩
        have htb := (hk ws.length).1
        rw [List.take_of_length_le (Nat.le_refl _), hT] at htb
        obtain ⟨ht0, ht1⟩ := htb
        rw [hT] at HTO ⊢
        have hsv : sumV (some T) = T := rfl
        have hsb : sumB (some T) = true := rfl
        rw [hsv, hsb] at HTO
        have HTT := Lib.hid hT
        obtain ⟨n, hn⟩ : ∃ n, ws.length = n := ⟨_, rfl⟩
        rw [hn] at HS HAT hd1 hd3 HCK HTO ⊢
        have HN := Lib.hid hn
        have HCF := Lib.hid hcf
        clear hat hn hall hk hE hi hcf hT hsv hsb
        go_enter Tryz.func23, Tryz.ntmps23
        go_wp2_with fail
        refine HCK.out.mono ?_
        rintro e w1 ⟨rfl, hb1⟩
        have HB1 := Lib.hid hb1
        clear hb1
        go_wp2_with fail
        refine (HTO.out _ (HS.out.keep HB1.out)).mono ?_
        rintro e w2 ⟨rfl, hb2⟩
        have HB2 := Lib.hid (HB1.out.trans (hb2.mono HB1.out.size))
        clear hb2
        go_wp2_with fail
        go_loopg [9, 10] n (fun gg s9 s10 wr => ∃ (k : Nat) (g : Int), k ≤ n ∧ gg = n - k ∧ s10 = .int .i64 k ∧ s9 = .int .i64 g ∧ Hid (g = maxT (ws.take k)) ∧ w2 = wr)
        case atStart => exact ⟨0, 0, Nat.zero_le _, by omega, rfl, rfl, rfl, rfl⟩
        case round =>
          obtain ⟨k, g, hkn, hgg, rfl, rfl, HM, rfl⟩ := hrel
          have HG := Lib.hid hgg
          obtain ⟨_, hm0, hm1⟩ := HK.out k
          rw [← HM.out] at hm0 hm1
          by_cases hlt : k < n
          · have hltz : (k : Int) < (n : Int) := by omega
            have hk0 : (0 : Int) ≤ (k : Int) := by omega
            obtain ⟨y, hy⟩ := ex_at (xs := ws) (k := k) (by rw [HN.out]; exact hlt)
            obtain ⟨b, off, hA, hbl, hcell⟩ := HAT.out (by omega)
            subst hA
            obtain ⟨c1, c2⟩ := (hcell k y hy).keep HB2.out hbl
            have hy1 := HALL.out y (List.mem_of_getElem? hy)
            have HMN : Hid (max g y.2 = maxT (ws.take (k + 1))) := Lib.hid (by rw [List.take_add_one, hy, Option.toList_some, maxT_snoc _ _ hy1.1, HM.out])
            obtain ⟨y1, y2⟩ := y
            simp only at c1 c2 hy1 HMN
            obtain ⟨yl, yu⟩ := hy1
            clear hcell hy hgg
            by_cases hmx : g < y2
            · have HME : Hid (y2 = maxT (ws.take (k + 1))) := Lib.hid (by rw [← HMN.out]; omega)
              go_wp2_with fail
              go_roundg (n - (k + 1))
              case measure => have := HG.out; omega
              case rel => exact ⟨k + 1, y2, by omega, rfl, by go_num, rfl, HME, rfl⟩
            · have HME : Hid (g = maxT (ws.take (k + 1))) := Lib.hid (by rw [← HMN.out]; omega)
              have hmxd : decide (g < y2) = false := decide_eq_false hmx
              go_wp2_with fail
              go_roundg (n - (k + 1))
              case measure => have := HG.out; omega
              case rel => exact ⟨k + 1, g, by omega, rfl, by go_num, rfl, HME, rfl⟩
          · have hltz : ¬ (k : Int) < (n : Int) := by omega
            have hTK : ws.take k = ws := List.take_of_length_le (by rw [HN.out]; omega)
            have HM' := Lib.hid HM.out
            rw [hTK] at HM'
            obtain ⟨cg, hcg⟩ : ∃ cg, (c - 1) * g = cg := ⟨_, rfl⟩
            have hcgb : 0 ≤ cg ∧ cg ≤ 1024 := by
              rw [← hcg]
              refine ⟨Int.mul_nonneg (by omega) (by omega), ?_⟩
              have := Int.mul_le_mul (a := c - 1) (b := g) (c := 16) (d := 64) (by omega) (by omega) (by omega) (by omega)
              omega
            obtain ⟨hcg0, hcg1⟩ := hcgb
            have HFIN : Hid (decide (T + cg < cf + c) = decide (T + (c - 1) * maxT ws < cf + c)) := Lib.hid (by rw [← HM'.out, hcg])
            have hcf := HCF.out
            by_cases hn0 : n = 0
            · have HE : Hid (decide (T + cg < cf + c) = true) := Lib.hid (by
                have hws : ws = [] := List.eq_nil_of_length_eq_zero (by rw [HN.out]; exact hn0)
                have h1 := HTT.out
                have h2 := HM'.out
                rw [hws] at h1 h2
                have h3 : sumS [] = 0 := rfl
                have h4 : maxT [] = 0 := rfl
                rw [h2, h4, Int.mul_zero] at hcg
                rw [decide_eq_true_iff]
                omega)
              subst hn0
              clear hTK hgg HM'
              go_wp2_with fail
              go_ret
              refine ⟨?_, HB2.out⟩
              rw [← HFIN.out, HE.out]
              rfl
            · have hn1 : ((n : Int) == 0) = false := by simp; omega
              clear hTK hgg HM'
              go_wp2_with fail
              go_ret
              refine ⟨?_, HB2.out⟩
              rw [← HFIN.out]
              rfl
  · have HR : Hid (sureT f c ws = false) := Lib.hid (sure_chk (by rw [hE]; exact he))
    have hb0 : (E != 0) = true := by simpa using he
    clear he hE hi
    obtain ⟨A, d, rfl, _⟩ := h
    go_enter Tryz.func23, Tryz.ntmps23
    go_wp2_with fail
    refine HCK.out.mono ?_
    rintro e w1 ⟨rfl, hb1⟩
    have HB1 := Lib.hid hb1
    clear hb1
    go_wp2_with fail
    go_ret
    exact ⟨by rw [HR.out]; rfl, HB1.out⟩
end Go.Proofs.YtpfpojehcjmfnaaGreat

/-
  Free of the document.
  Conditions: the slice reads as places; the numbers are small.
-/
set_option linter.unusedVariables false
namespace Go.Proofs.YtpfpojehcjmfnaaGreat
open Go.RowKit Go.Sort

set_option maxRecDepth 100000 in
set_option maxHeartbeats 2000000 in
theorem refFree_any (f : Int) (m : Nat) (v : Value) (l : List Pl) (w : World) (h : PlsAt w v l) (hL : LightL l) (hS : Shares l) (hm : m < 4294967296) (hf : 0 ≤ f) (hf2 : f ≤ 64) :
    Calls Tryz.prog 21 #[planA f m v] w (RetB (.int .i64 (freeT f m l 16)) w) := by
  have HH := Lib.hid h
  have HR := Lib.hid (fun c w h => refRoom_any f m v l c w h hL hS hm hf hf2)
  have HFB := Lib.hid (fun k => free_bound f m l hL hS hf hf2 k)
  have HRB := Lib.hid (fun c => room_bound f m l hL hS hf hf2 c)
  unfold planA at HR
  obtain ⟨w1, P, hw1, hP, hPl, hb1, hbox⟩ := box_any w #[.int .i64 f, .int .u32 m, v] 26
  have HB1 := Lib.hid hb1
  have HBOX := Lib.hid hbox
  obtain ⟨r0, r1, r2⟩ := three_heads hbox
  clear h hL hS hb1 hbox
  unfold planA
  go_enter Tryz.func21, Tryz.ntmps21
  go_wp2_with fail
  clear hw1 hP r0 r1 r2
  go_loopg [3, 4] 16 (fun gg s3 s4 wr => ∃ (k : Nat) (q : Int), k ≤ 16 ∧ gg = 16 - k ∧ s4 = .int .i64 k ∧ s3 = .int .i64 q ∧ q = freeT f m l k ∧ Below w1.heap.size w1 wr)
  case atStart => exact ⟨0, 0, Nat.zero_le _, by omega, rfl, rfl, rfl, Below.refl _ _⟩
  case round =>
    obtain ⟨k, q, hk, hg, rfl, rfl, hq, hbw⟩ := hrel
    have HQ := Lib.hid hq
    have HBW := Lib.hid hbw
    have HB := Lib.hid (HB1.out.trans (hbw.mono HB1.out.size))
    have HG := Lib.hid hg
    obtain ⟨r0, r1, r2⟩ := three_heads ((hbw.block P hPl).trans HBOX.out)
    have hqb := HFB.out k
    rw [← hq] at hqb
    obtain ⟨hq1, hq2⟩ := hqb
    have hk16 : k ≤ 16 := hk
    clear hbw hg hq
    by_cases hlt : k < 16
    · have HRC := Lib.hid (HR.out (k : Int) wr (HH.out.keep HB.out))
      have hrb := HRB.out (k : Int)
      have HS := Lib.hid (show freeT f m l (k + 1) = freeT f m l k + roomN f m l (k : Int) from rfl)
      rw [← HQ.out] at HS
      generalize roomN f m l (k : Int) = rm at *
      obtain ⟨hr1, hr2⟩ := hrb
      have k1 : -400000 ≤ q := by omega
      have k2 : q ≤ 200000 := by omega
      clear hq1 hq2
      go_wp2_with fail
      refine HRC.out.mono ?_
      rintro e w3 ⟨rfl, hb3⟩
      have HB3 := Lib.hid (HBW.out.trans (hb3.mono HBW.out.size))
      clear hb3
      go_wp2_with fail
      go_roundg (16 - (k + 1))
      case measure => have := HG.out; omega
      case rel => exact ⟨k + 1, q + rm, by omega, rfl, by go_num, rfl, HS.out.symm, HB3.out⟩
    · have hk16' : k = 16 := by omega
      subst hk16'
      have HE : Hid (q = freeT f m l 16) := HQ.out
      clear hq1 hq2
      go_wp2
      go_ret
      exact ⟨ret_int HE.out, HB.out⟩
end Go.Proofs.YtpfpojehcjmfnaaGreat

/-
  The law of all wants: PackAll.
  Conditions: the slices read as wants; the numbers are of their kinds.
-/
set_option linter.unusedVariables false
set_option linter.unusedSimpArgs false
namespace Go.Proofs.YtpfpojehcjmfnaaGreat
open Go.RowKit

set_option maxRecDepth 100000 in
set_option maxHeartbeats 8000000 in
theorem all_law (f : Int) (m : Nat) (vw : Value) (ps : List Sp) (w : World) (hm : m < 4294967296) (hv : ArgAt w vw ps) (hi : IntsS ps) :
    Calls Tryz.prog 4 #[.int .i64 f, .int .u32 m, vw] w (RetB (.bool true) w) := by
  have mixed : Tryz.prog.follows .mixedOrders = true := by kernel_rfl
  have HAW := Lib.hid (fun W => awake_any W)
  have harg := hv
  obtain ⟨B, d, rfl, hc1, hc2, hnil, _⟩ := hv
  have hs := harg.cut 80 (by decide)
  have hi' := hi.take 80
  have hlq : (ps.take 80).length = min ps.length 80 := by rw [List.length_take, Nat.min_comm]
  have hmn : min (ps.length : Int) 80 = ((min ps.length 80 : Nat) : Int) := by omega
  have hmle : min ps.length 80 ≤ ps.length := Nat.min_le_left _ _
  have hm60 : min ps.length 80 ≤ 80 := Nat.min_le_right _ _
  generalize ps.take 80 = qs at *
  generalize ps.length = n at *
  generalize min n 80 = q at *
  have hmc : (q : Int) ≤ (d : Int) := by omega
  have hm0 : (0 : Int) ≤ (q : Int) := by omega
  have HLQ := Lib.hid hlq
  have hl300 : qs.length ≤ 300 := by omega
  have HNIL := Lib.hid hnil
  have HI := Lib.hid hi'
  have HS : Hid (∀ W, Below w.heap.size w W → SpansAt W (.slice B q d) qs) := Lib.hid (fun W hk => hs.keep hk)
  have HFU := Lib.hid (fun W hk => full_any f m (.slice B q d) qs W (HS.out W hk) hi' hm hl300)
  have HFS := Lib.hid (fun W hk => pkFits_any f m (.slice B q d) qs W (HS.out W hk) hi' hm hl300)
  have HCK := Lib.hid (fun W hk => refCheck_any f (.slice B q d) qs W (HS.out W hk) hi')
  have HTO := Lib.hid (fun W hk => refTotal_any (.slice B q d) qs W (HS.out W hk) hi')
  have HSU := Lib.hid (fun c W hk => refSure_any f c (.slice B q d) qs W (HS.out W hk) hi')
  have HRI := Lib.hid (fun W => calls_iff (right_any f m (.slice none 0 0) [] W (PlsIn.nil _ W) light_nil hm))
  have HCO := Lib.hid (fun (W : World) => refCores_any f m (.slice none 0 0) W hm)
  have HMM := Lib.hid hm
  have HK0 := Lib.hid (Below.refl w.heap.size w)
  unfold planA at HRI HCO
  clear harg hi hs hi' hlq hl300 hnil hm
  obtain ⟨wa, P, hwa, hP, hPl, hbwa, hPb⟩ := box_any w #[.int .i64 0, .int .u32 0, .slice none 0 0] 26
  have HPB := Lib.hid hPb
  obtain ⟨wb, hwb⟩ : ∃ wb, wa.setRow P #[.int .i64 f, .int .u32 m, .slice none 0 0] = wb := ⟨_, rfl⟩
  have hbwb : Below w.heap.size w wb := by rw [← hwb]; exact below_row hbwa (by omega) _
  have HKwb := Lib.hid (HK0.out.trans (hbwb.mono HK0.out.size))
  have HPC : Hid (∀ W, Below wb.heap.size wb W → W.cell? ⟨P, 0, none⟩ = some (.int .i64 f) ∧ W.cell? ⟨P, 1, none⟩ = some (.int .u32 m) ∧ W.cell? ⟨P, 2, none⟩ = some (.slice none 0 0)) := Lib.hid (by
    have hq : wb.heap[P]? = some (.cells #[.int .i64 f, .int .u32 m, .slice none 0 0] 26 (0, 0)) := by rw [← hwb]; exact setRow_heap _ _ _ _ _ _ hPb
    exact fun W hk => three_heads (keep_block hq hk))
  clear hbwa hbwb hPb
  have HPb := Lib.hid (Below.refl wb.heap.size wb)
  go_enter Tryz.func4, Tryz.ntmps4
  obtain ⟨p0, p1, p2⟩ := HPC.out _ HPb.out
  go_wp2_with (refine wpList_store_row rfl _ _ _ rfl P #[.int .i64 f, .int .u32 m, .slice none 0 0] rfl rfl 26 _ HPB.out (Tryz.sizePn _ _ _) rfl (one3 _ _ _ _ _) ?_)
  by_cases hr : Right f m []
  · have HR := Lib.hid hr
    refine ((HRI.out _).1 hr).mono ?_
    rintro e wc ⟨rfl, hbc⟩
    have HKc := Lib.hid (HKwb.out.trans (hbc.mono HKwb.out.size))
    have HPc := Lib.hid hbc
    clear hbc hr p0 p1 p2 hwb hwa hP
    go_wp2_with fail
    refine (HCK.out _ HKc.out).mono ?_
    rintro e wd ⟨rfl, hbd⟩
    have HKd := Lib.hid (HKc.out.trans (hbd.mono HKc.out.size))
    have HPd := Lib.hid (HPc.out.trans (hbd.mono HPc.out.size))
    clear hbd
    by_cases hc : chkT f qs = 0
    · have HC := Lib.hid hc
      rw [hc]
      have HTO5 := Lib.hid (HTO.out _ HKd.out)
      rw [tot_chk hc] at HTO5
      have HTO6 : Hid (Calls Tryz.prog 18 #[.slice B q d] wd (RetB (.tuple #[.int .i64 (sumS qs), .bool true]) wd)) := HTO5
      obtain ⟨⟨hf1, hf2⟩, hall, hks⟩ := chk_small hc
      have htb := (hks qs.length).1
      rw [List.take_of_length_le (Nat.le_refl _)] at htb
      obtain ⟨t, ht⟩ : ∃ t, sumS qs = t := ⟨_, rfl⟩
      have HT := Lib.hid ht
      rw [ht] at HTO6 htb
      obtain ⟨ht0, ht1⟩ := htb
      obtain ⟨nc, hnc⟩ : ∃ nc, coresN m = nc := ⟨_, rfl⟩
      have HNC := Lib.hid hnc
      have hnc16 : nc ≤ 16 := by rw [← hnc]; exact coresN_le m
      have HTL : Hid ((ticksI m 16).length = nc) := Lib.hid (by rw [ticksI_length, ← hnc]; rfl)
      obtain ⟨z, hz⟩ : ∃ z, f * (nc : Int) = z := ⟨_, rfl⟩
      have hzb : 0 ≤ z ∧ z ≤ 1088 := by
        rw [← hz, Int.mul_comm]
        exact mul_small hf1 hf2 (by omega)
      obtain ⟨hz0, hz1⟩ := hzb
      have HZ := Lib.hid hz
      clear hc ht HTO5 HTO hall hks hnc
      go_wp2_with fail
      refine HTO6.out.mono ?_
      rintro e we ⟨rfl, hbe⟩
      have HKe := Lib.hid (HKd.out.trans (hbe.mono HKd.out.size))
      have HPe := Lib.hid (HPd.out.trans (hbe.mono HPd.out.size))
      clear hbe
      obtain ⟨p0, p1, p2⟩ := HPC.out _ HPe.out
      go_wp2_with fail
      refine (HCO.out _).mono ?_
      rintro e wf ⟨vb, rfl, hib, hbf⟩
      obtain ⟨Ab, cb, rfl, _⟩ := hib
      rw [HTL.out]
      have HKf := Lib.hid (HKe.out.trans (hbf.mono HKe.out.size))
      clear hbf p0 p1 p2
      go_wp2_with fail
      refine (HFU.out _ HKf.out).mono ?_
      rintro e wg ⟨E, hwhy, hbg, hcase⟩
      have HKg := Lib.hid (HKf.out.trans (hbg.mono HKf.out.size))
      rcases hcase with ⟨hE0, v3, rfl, hpl⟩ | ⟨hE0, rfl⟩
      · subst hE0
        have hok := hwhy.zero
        have HOK := Lib.hid hok
        have his := hok.is
        have htz : t ≤ z := by have := hok.sum; rw [HT.out, HNC.out, HZ.out] at this; exact this
        have htzd : decide (t ≤ z) = true := decide_eq_true htz
        obtain ⟨Lq, hLQ⟩ : ∃ Lq, fullT f m qs = Lq := ⟨_, rfl⟩
        have HLEQ := Lib.hid hLQ
        rw [hLQ] at hpl his
        have hlen := his.len
        have hLq : LightL Lq := ⟨by have := HLQ.out; omega, his.ok⟩
        have hR := his.right
        obtain ⟨A3, d3, hv3, _, _⟩ := hpl.form
        obtain ⟨n3, hn3⟩ : ∃ n3, Lq.length = n3 := ⟨_, rfl⟩
        rw [hn3] at hv3
        subst hv3
        obtain ⟨w4, Q, hw4, hQ, hQl, hbw4, hQb⟩ := box_any wg #[.int .i64 0, .int .u32 0, .slice none 0 0] 26
        have HQB := Lib.hid hQb
        obtain ⟨w5, hw5⟩ : ∃ w5, w4.setRow Q #[.int .i64 f, .int .u32 m, .slice A3 n3 d3] = w5 := ⟨_, rfl⟩
        have hbw5 : Below wg.heap.size wg w5 := by rw [← hw5]; exact below_row hbw4 (by omega) _
        have HKw5 := Lib.hid (HKg.out.trans (hbw5.mono HKg.out.size))
        have HQC : Hid (∀ W, Below w5.heap.size w5 W → W.cell? ⟨Q, 0, none⟩ = some (.int .i64 f) ∧ W.cell? ⟨Q, 1, none⟩ = some (.int .u32 m) ∧ W.cell? ⟨Q, 2, none⟩ = some (.slice A3 n3 d3)) := Lib.hid (by
          have hq : w5.heap[Q]? = some (.cells #[.int .i64 f, .int .u32 m, .slice A3 n3 d3] 26 (0, 0)) := by rw [← hw5]; exact setRow_heap _ _ _ _ _ _ hQb
          exact fun W hk => three_heads (keep_block hq hk))
        have HPQ : Hid (∀ W, Below w5.heap.size w5 W → PlsAt W (.slice A3 n3 d3) Lq) := Lib.hid (fun W hk => (hpl.keep hbw5).keep hk)
        have HS5 : Hid (∀ W, Below w5.heap.size w5 W → SpansAt W (.slice B q d) qs) := Lib.hid (fun W hk => HS.out W (HKw5.out.trans (hk.mono HKw5.out.size)))
        have HK50 := Lib.hid (Below.refl w5.heap.size w5)
        have HRQ := Lib.hid (fun W hk => (calls_iff (right_any f m (.slice A3 n3 d3) Lq W (HPQ.out W hk) hLq HMM.out)).1 hR)
        have HFD0 := Lib.hid (fun u W hk => refFind_any f m (.slice A3 n3 d3) Lq u W (HPQ.out W hk) (by have := hLq.len; omega))
        have HSPL := Lib.hid (fun W hk => refSplits_any f m (.slice A3 n3 d3) Lq W (HPQ.out W hk) (by have := hLq.len; omega))
        have HFRE := Lib.hid (fun W hk => refFree_any f m (.slice A3 n3 d3) Lq W (HPQ.out W hk) hLq (shares_of hR.place hR.f64) HMM.out (by have := hR.f2; omega) hR.f64)
        have hfre : freeT f m Lq 16 = z - t := by rw [his.free, HT.out, HNC.out, HZ.out]
        rw [hfre] at HFRE
        have HGT : Hid (∀ y ∈ qs, ∃ x, findU Lq y.1 = some x ∧ x.s = y.2) := Lib.hid (fun y hy => by
          obtain ⟨x, h1, _, h3⟩ := his.got y hy
          exact ⟨x, h1, h3⟩)
        obtain ⟨sp, hsp⟩ : ∃ sp, splitsN Lq = sp := ⟨_, rfl⟩
        have HSN := Lib.hid hsp
        have hspn : sp < nc := by have h1 := hR.few; rw [hsp, HNC.out] at h1; exact h1
        have hfd : decide ((nc : Int) ≤ (sp : Int)) = false := decide_eq_false (by omega)
        have hfn : ¬ nc ≤ sp := by omega
        have e0 : ((n3 : Int) != (q : Int)) = false := by have := HLQ.out; simp; omega
        unfold planA at HRQ HFD0 HSPL HFRE
        unfold RetFind at HFD0
        rw [hsp] at HSPL
        have HN3 := Lib.hid hn3
        clear hpl hbg hbw4 hbw5 hQb hn3 hwhy hok his hlen hLq hR hfre hsp hspn hLQ
        unfold planA
        obtain ⟨q0, q1, q2⟩ := HQC.out _ HK50.out
        go_wp2_with (refine wpList_store_row rfl _ _ _ rfl Q #[.int .i64 f, .int .u32 m, .slice A3 n3 d3] rfl rfl 26 _ HQB.out (Tryz.sizePn _ _ _) rfl (one3 _ _ _ _ _) ?_)
        refine (HRQ.out _ HK50.out).mono ?_
        rintro e w6 ⟨rfl, hb6⟩
        have HK6 := Lib.hid hb6
        clear hb6 q0 q1 q2 hw5 hw4 hQ
        obtain ⟨q0, q1, q2⟩ := HQC.out _ HK6.out
        go_wp2_with fail
        refine (HSPL.out _ HK6.out).mono ?_
        rintro e w7 ⟨rfl, hb7⟩
        have HK7 := Lib.hid (HK6.out.trans (hb7.mono HK6.out.size))
        clear hb7 q0 q1 q2
        obtain ⟨q0, q1, q2⟩ := HQC.out _ HK7.out
        go_wp2_with fail
        refine (HFRE.out _ HK7.out).mono ?_
        rintro e w8 ⟨rfl, hb8⟩
        have HK8 := Lib.hid (HK7.out.trans (hb8.mono HK7.out.size))
        clear hb8 q0 q1 q2
        go_wp2_with fail
        clear hfd hfn e0 htz htzd ht0 ht1 hz0 hz1 hz
        go_loopg [13, 14, 15] q (fun gg s7 _ _ wr => ∃ i : Nat, i ≤ q ∧ gg = q - i ∧ s7 = .int .i64 i ∧ Below w5.heap.size w5 wr)
        case atStart => exact ⟨0, Nat.zero_le _, by omega, rfl, HK8.out⟩
        case round =>
          obtain ⟨i, hin, hgg, rfl, hbw⟩ := hrel
          have HG := Lib.hid hgg
          have HBW := Lib.hid hbw
          obtain ⟨wo, rfl⟩ : ∃ wo : World, wo = wr := ⟨_, rfl⟩
          by_cases hlt : i < q
          · have hltz : (i : Int) < (q : Int) := by omega
            have hi0 : (0 : Int) ≤ (i : Int) := by omega
            obtain ⟨y, hy⟩ := ex_at (xs := qs) (k := i) (by rw [HLQ.out]; exact hlt)
            obtain ⟨z, hfz, hzs⟩ := HGT.out y (List.mem_of_getElem? hy)
            obtain ⟨A', c', hs1, hs2, hs3, hs4, hs5⟩ := HS5.out _ HK50.out
            injection hs1 with t1 t2 t3
            subst t1 t3
            obtain ⟨bl, ol, hA, hbl, hcell⟩ := hs5 (by rw [HLQ.out]; omega)
            subst hA
            have HYC0 := Lib.hid (fun W (hk : Below w5.heap.size w5 W) => (hcell i y hy).keep hk hbl)
            obtain ⟨y1, y2⟩ := y
            simp only at hfz hzs HYC0
            have HZS := Lib.hid hzs
            have HYC : Hid (∀ W, Below w5.heap.size w5 W → W.cell? ⟨bl, ol + i * 2, none⟩ = some (.int .i64 y1) ∧ W.cell? ⟨bl, ol + i * 2 + 1, none⟩ = some (.int .i64 y2)) := Lib.hid (fun W hk => HYC0.out W hk)
            have HSF : Hid (∀ W, Below w5.heap.size w5 W → W.cell? ⟨Q, 0, none⟩ = some (.int .i64 f) ∧ W.cell? ⟨Q, 1, none⟩ = some (.int .u32 m) ∧ W.cell? ⟨Q, 2, none⟩ = some (.slice A3 n3 d3) ∧ W.cell? ⟨bl, ol + i * 2, none⟩ = some (.int .i64 y1) ∧ W.cell? ⟨bl, ol + i * 2 + 1, none⟩ = some (.int .i64 y2)) := Lib.hid (fun W hk => by
              obtain ⟨a0, a1, a2⟩ := HQC.out W hk
              exact ⟨a0, a1, a2, HYC.out W hk⟩)
            have HFD := Lib.hid (fun W hk => HFD0.out y1 W hk)
            rw [hfz] at HFD
            simp only [Option.getD, Option.isSome] at HFD
            have hkd := HBW.out.drew
            clear hgg hbw hcell hy hfz hzs HYC0 hs2 hs3 hs4 hs5 t2
            go_wp2_with fail
            as_aux_lemma =>
              refine wp_region_held_drew (S := fun w' => w'.cell? ⟨Q, 0, none⟩ = some (.int .i64 f) ∧ w'.cell? ⟨Q, 1, none⟩ = some (.int .u32 m) ∧ w'.cell? ⟨Q, 2, none⟩ = some (.slice A3 n3 d3) ∧ w'.cell? ⟨bl, ol + i * 2, none⟩ = some (.int .i64 y1) ∧ w'.cell? ⟨bl, ol + i * 2 + 1, none⟩ = some (.int .i64 y2)) (by kernel_rfl) ?_ (fun hHeld => ?_)
              · exact HSF.out _ hkd
              refine wpAnyH_take (i := 0) (oi := ⟨some 105, _, _, _, _, _⟩) (v := ?_) rfl (by kernel_rfl) (by kernel_rfl) (by kernel_rfl) (fun _ _ _ h => h) (Or.inl ⟨by kernel_rfl, ?_⟩) (by assumption) ?_
              rotate_left
              · (intro w hSw; (try dsimp only at hSw); go_simp; try with_reducible rfl)
              (try simp only [Act.put, List.setIfInBounds_toArray, List.set_cons_zero, List.set_cons_succ])
              refine wpAnyH_take (i := 1) (oi := ⟨some 106, _, _, _, _, _⟩) (v := ?_) rfl (by kernel_rfl) (by kernel_rfl) (by kernel_rfl) (fun _ _ _ h => h) (Or.inl ⟨by kernel_rfl, ?_⟩) (by assumption) ?_
              rotate_left
              · (intro w hSw; (try dsimp only at hSw); go_simp; try with_reducible rfl)
              (try simp only [Act.put, List.setIfInBounds_toArray, List.set_cons_zero, List.set_cons_succ])
              refine wpAnyH_take (i := 2) (oi := ⟨some 107, _, _, _, _, _⟩) (v := ?_) rfl (by kernel_rfl) (by kernel_rfl) (by kernel_rfl) (fun _ _ _ h => h) (Or.inl ⟨by kernel_rfl, ?_⟩) (by assumption) ?_
              rotate_left
              · (intro w hSw; (try dsimp only at hSw); go_simp; try with_reducible rfl)
              (try simp only [Act.put, List.setIfInBounds_toArray, List.set_cons_zero, List.set_cons_succ])
              refine wpAnyH_take (i := 3) (oi := ⟨some 108, _, _, _, _, _⟩) (v := ?_) rfl (by kernel_rfl) (by kernel_rfl) (by kernel_rfl) (fun _ _ _ h => h) (Or.inl ⟨by kernel_rfl, ?_⟩) (by assumption) ?_
              rotate_left
              · (intro w hSw; (try dsimp only at hSw); go_simp; try with_reducible rfl)
              (try simp only [Act.put, List.setIfInBounds_toArray, List.set_cons_zero, List.set_cons_succ])
              refine wpAnyH_take (i := 4) (oi := ⟨some 109, _, _, _, _, _⟩) (v := ?_) rfl (by kernel_rfl) (by kernel_rfl) (by kernel_rfl) (fun _ _ _ h => h) (Or.inl ⟨by kernel_rfl, ?_⟩) (by assumption) ?_
              rotate_left
              · (intro w hSw; (try dsimp only at hSw); go_simp; try with_reducible rfl)
              (try simp only [Act.put, List.setIfInBounds_toArray, List.set_cons_zero, List.set_cons_succ])
              refine wpAnyH_take (i := 5) (oi := ⟨some 110, _, _, _, _, _⟩) (v := ?_) rfl (by kernel_rfl) (by kernel_rfl) (by kernel_rfl) (fun _ _ _ h => h) (Or.inl ⟨by kernel_rfl, ?_⟩) (by assumption) ?_
              rotate_left
              · (intro w hSw; (try dsimp only at hSw); go_simp; try with_reducible rfl)
              (try simp only [Act.put, List.setIfInBounds_toArray, List.set_cons_zero, List.set_cons_succ])
              refine wpAnyH_ready (rs := [6, 10]) (by kernel_rfl) (by simp) ?_
              refine AllReadyH.cons (o := ⟨some 111, _, _, _, _, _⟩) rfl (fun K hK => ?_) (AllReadyH.cons (o := ⟨some 14, _, _, _, _, _⟩) rfl (fun K hK => ?_) AllReadyH.nil)
              · rw [if_pos (by kernel_rfl)]
                go_simp
                go_at_call 22; refine (HFD.out _ hkd).mono ?_; rintro e wx1 ⟨vq, rfl, hps, hbx1⟩; unfold plA
                obtain ⟨Aq, dq, rfl⟩ := hps.form
                have hkx1 := hkd.trans (hbx1.mono hkd.size)
                refine hK.out _ _ ?_ (fun hHeld => ?_)
                · exact HSF.out _ hkx1
                clear hK K
                (try simp only [Act.put, List.setIfInBounds_toArray, List.set_cons_zero, List.set_cons_succ])
                refine wpAnyH_take (i := 7) (oi := ⟨some 104, _, _, _, _, _⟩) (v := ?_) rfl (by kernel_rfl) (by kernel_rfl) (by kernel_rfl) (fun _ _ _ h => h) (Or.inl ⟨by kernel_rfl, ?_⟩) (by assumption) ?_
                rotate_left
                · (intro w hSw; (try dsimp only at hSw); go_simp; try with_reducible rfl)
                (try simp only [Act.put, List.setIfInBounds_toArray, List.set_cons_zero, List.set_cons_succ])
                refine wpAnyH_take (i := 8) (oi := ⟨some 112, _, _, _, _, _⟩) (v := ?_) rfl (by kernel_rfl) (by kernel_rfl) (by kernel_rfl) (fun _ _ _ h => h) (Or.inl ⟨by kernel_rfl, ?_⟩) (by assumption) ?_
                rotate_left
                · (intro w hSw; (try dsimp only at hSw); go_simp; try with_reducible rfl)
                (try simp only [Act.put, List.setIfInBounds_toArray, List.set_cons_zero, List.set_cons_succ])
                refine wpAnyH_take (i := 9) (oi := ⟨some 113, _, _, _, _, _⟩) (v := ?_) rfl (by kernel_rfl) (by kernel_rfl) (by kernel_rfl) (fun _ _ _ h => h) (Or.inl ⟨by kernel_rfl, ?_⟩) (by assumption) ?_
                rotate_left
                · (intro w hSw; (try dsimp only at hSw); go_simp; try with_reducible rfl)
                (try simp only [Act.put, List.setIfInBounds_toArray, List.set_cons_zero, List.set_cons_succ])
                refine wpAnyH_ready (rs := [10]) (by kernel_rfl) (by simp) ?_
                refine AllReadyH.cons (o := ⟨some 14, _, _, _, _, _⟩) rfl (fun K hK => ?_) AllReadyH.nil
                obtain ⟨wx2, Q1, hw2, hQ2, hQl, hbx2, hq⟩ := box_any wx1 #[.int .i64 0, .int .i64 0, .int .i64 0, .slice none 0 0] 48
                have hkx2 := hkx1.trans (hbx2.mono hkx1.size)
                have hQw : w5.heap.size ≤ Q1 := by have := hkx1.size; omega
                have hps := hps.keep hbx2
                rw [if_pos (by kernel_rfl)]
                go_simp
                refine hK.out _ _ ?_ (fun hHeld => ?_)
                · exact HSF.out _ hkx2
                clear hK K
                (try simp only [Act.put, List.setIfInBounds_toArray, List.set_cons_zero, List.set_cons_succ])
                clear hw2 hQ2
                refine wpAnyH_ready (rs := [11]) (by kernel_rfl) (by simp) ?_
                refine AllReadyH.cons (o := ⟨none, _, _, _, _, _⟩) rfl (fun K hK => ?_) AllReadyH.nil
                refine step_store_row16 rfl _ _ _ rfl Q1 #[.int .i64 z.u, .int .i64 z.s, .int .i64 z.c, .slice Aq z.ps.length dq] (by simp [Act.eval, Act.put]) (by simp [Act.eval, Act.put]) 48 _ hq (Tryz.sizePl _ _ _ _) rfl (one4 _ _ _ _ _ _) ?_
                have hkz := below_row hkx2 hQw #[.int .i64 z.u, .int .i64 z.s, .int .i64 z.c, .slice Aq z.ps.length dq]
                refine hK.out _ _ ?_ (fun hHeld => ?_)
                · exact HSF.out _ hkz
                clear hK K
                (try simp only [Act.put, List.setIfInBounds_toArray, List.set_cons_zero, List.set_cons_succ])
                refine wpAnyH_take (i := 12) (oi := ⟨some 15, _, _, _, _, _⟩) (v := ?_) rfl (by kernel_rfl) (by kernel_rfl) (by kernel_rfl) (fun _ _ _ h => h) (Or.inl ⟨by kernel_rfl, ?_⟩) (by assumption) ?_
                rotate_left
                · (intro w hSw; (try dsimp only at hSw); go_simp; try with_reducible rfl)
                (try simp only [Act.put, List.setIfInBounds_toArray, List.set_cons_zero, List.set_cons_succ])
                refine wpAnyH_done (by kernel_rfl) ?_ _
                obtain ⟨wz, hwz⟩ : ∃ wz, (wx2).setRow Q1 #[.int .i64 z.u, .int .i64 z.s, .int .i64 z.c, .slice Aq z.ps.length dq] = wz := ⟨_, rfl⟩
                have hq1 : wz.heap[Q1]? = some (.cells #[.int .i64 z.u, .int .i64 z.s, .int .i64 z.c, .slice Aq z.ps.length dq] 48 (0, 0)) := by rw [← hwz]; exact setRow_heap _ _ _ _ _ _ hq
                rw [hwz] at hkz ⊢
                have HKZ := Lib.hid hkz
                obtain ⟨e0, e1, e2, e3⟩ := four_heads hq1
                rw [HZS.out] at e1
                obtain ⟨g1, g2⟩ := HYC.out _ hkz
                clear hHeld hkz hq hps hq1 hwz
                go_wp2_with fail
                go_quiet (fail)
                have HKY := Lib.hid (below_drewN HKZ.out nq)
                generalize wz.drewN nq = wy at *
                clear e0 e1 e2 e3 g1 g2
                go_wp2_with fail
                go_roundg (q - (i + 1))
                case measure => have := HG.out; omega
                case rel => exact ⟨i + 1, by omega, rfl, by go_num, HKY.out⟩
              · obtain ⟨wx4, Q1, hw4, hQ4, hQl, hbx4, hq⟩ := box_any wo.drew #[.int .i64 0, .int .i64 0, .int .i64 0, .slice none 0 0] 48
                have hkx4 := hkd.trans (hbx4.mono hkd.size)
                have hQw : w5.heap.size ≤ Q1 := by have := hkd.size; omega
                rw [if_pos (by kernel_rfl)]
                go_simp
                refine hK.out _ _ ?_ (fun hHeld => ?_)
                · exact HSF.out _ hkx4
                clear hK K
                (try simp only [Act.put, List.setIfInBounds_toArray, List.set_cons_zero, List.set_cons_succ])
                clear hw4 hQ4
                refine wpAnyH_ready (rs := [6]) (by kernel_rfl) (by simp) ?_
                refine AllReadyH.cons (o := ⟨some 111, _, _, _, _, _⟩) rfl (fun K hK => ?_) AllReadyH.nil
                rw [if_pos (by kernel_rfl)]
                go_simp
                go_at_call 22; refine (HFD.out _ hkx4).mono ?_; rintro e wx5 ⟨vq, rfl, hps, hbx5⟩; unfold plA
                obtain ⟨Aq, dq, rfl⟩ := hps.form
                have hkx5 := hkx4.trans (hbx5.mono hkx4.size)
                have hq := keep_block hq hbx5
                refine hK.out _ _ ?_ (fun hHeld => ?_)
                · exact HSF.out _ hkx5
                clear hK K
                (try simp only [Act.put, List.setIfInBounds_toArray, List.set_cons_zero, List.set_cons_succ])
                refine wpAnyH_take (i := 7) (oi := ⟨some 104, _, _, _, _, _⟩) (v := ?_) rfl (by kernel_rfl) (by kernel_rfl) (by kernel_rfl) (fun _ _ _ h => h) (Or.inl ⟨by kernel_rfl, ?_⟩) (by assumption) ?_
                rotate_left
                · (intro w hSw; (try dsimp only at hSw); go_simp; try with_reducible rfl)
                (try simp only [Act.put, List.setIfInBounds_toArray, List.set_cons_zero, List.set_cons_succ])
                refine wpAnyH_take (i := 8) (oi := ⟨some 112, _, _, _, _, _⟩) (v := ?_) rfl (by kernel_rfl) (by kernel_rfl) (by kernel_rfl) (fun _ _ _ h => h) (Or.inl ⟨by kernel_rfl, ?_⟩) (by assumption) ?_
                rotate_left
                · (intro w hSw; (try dsimp only at hSw); go_simp; try with_reducible rfl)
                (try simp only [Act.put, List.setIfInBounds_toArray, List.set_cons_zero, List.set_cons_succ])
                refine wpAnyH_take (i := 9) (oi := ⟨some 113, _, _, _, _, _⟩) (v := ?_) rfl (by kernel_rfl) (by kernel_rfl) (by kernel_rfl) (fun _ _ _ h => h) (Or.inl ⟨by kernel_rfl, ?_⟩) (by assumption) ?_
                rotate_left
                · (intro w hSw; (try dsimp only at hSw); go_simp; try with_reducible rfl)
                (try simp only [Act.put, List.setIfInBounds_toArray, List.set_cons_zero, List.set_cons_succ])
                refine wpAnyH_ready (rs := [11]) (by kernel_rfl) (by simp) ?_
                refine AllReadyH.cons (o := ⟨none, _, _, _, _, _⟩) rfl (fun K hK => ?_) AllReadyH.nil
                refine step_store_row16 rfl _ _ _ rfl Q1 #[.int .i64 z.u, .int .i64 z.s, .int .i64 z.c, .slice Aq z.ps.length dq] (by simp [Act.eval, Act.put]) (by simp [Act.eval, Act.put]) 48 _ hq (Tryz.sizePl _ _ _ _) rfl (one4 _ _ _ _ _ _) ?_
                have hkz := below_row hkx5 hQw #[.int .i64 z.u, .int .i64 z.s, .int .i64 z.c, .slice Aq z.ps.length dq]
                refine hK.out _ _ ?_ (fun hHeld => ?_)
                · exact HSF.out _ hkz
                clear hK K
                (try simp only [Act.put, List.setIfInBounds_toArray, List.set_cons_zero, List.set_cons_succ])
                refine wpAnyH_take (i := 12) (oi := ⟨some 15, _, _, _, _, _⟩) (v := ?_) rfl (by kernel_rfl) (by kernel_rfl) (by kernel_rfl) (fun _ _ _ h => h) (Or.inl ⟨by kernel_rfl, ?_⟩) (by assumption) ?_
                rotate_left
                · (intro w hSw; (try dsimp only at hSw); go_simp; try with_reducible rfl)
                (try simp only [Act.put, List.setIfInBounds_toArray, List.set_cons_zero, List.set_cons_succ])
                refine wpAnyH_done (by kernel_rfl) ?_ _
                obtain ⟨wz, hwz⟩ : ∃ wz, (wx5).setRow Q1 #[.int .i64 z.u, .int .i64 z.s, .int .i64 z.c, .slice Aq z.ps.length dq] = wz := ⟨_, rfl⟩
                have hq1 : wz.heap[Q1]? = some (.cells #[.int .i64 z.u, .int .i64 z.s, .int .i64 z.c, .slice Aq z.ps.length dq] 48 (0, 0)) := by rw [← hwz]; exact setRow_heap _ _ _ _ _ _ hq
                rw [hwz] at hkz ⊢
                have HKZ := Lib.hid hkz
                obtain ⟨e0, e1, e2, e3⟩ := four_heads hq1
                rw [HZS.out] at e1
                obtain ⟨g1, g2⟩ := HYC.out _ hkz
                clear hHeld hkz hq hps hq1 hwz
                go_wp2_with fail
                go_quiet (fail)
                have HKY := Lib.hid (below_drewN HKZ.out nq)
                generalize wz.drewN nq = wy at *
                clear e0 e1 e2 e3 g1 g2
                go_wp2_with fail
                go_roundg (q - (i + 1))
                case measure => have := HG.out; omega
                case rel => exact ⟨i + 1, by omega, rfl, by go_num, HKY.out⟩
          · have hltz : ¬ (i : Int) < (q : Int) := by omega
            have HBW5 := Lib.hid (HKw5.out.trans (HBW.out.mono HKw5.out.size))
            have HSU9 := Lib.hid (HSU.out (nc : Int) wo HBW5.out)
            obtain ⟨q0, q1, q2⟩ := HQC.out _ HBW.out
            clear hgg hbw
            obtain ⟨sb, hsb⟩ : ∃ sb, sureT f (nc : Int) qs = sb := ⟨_, rfl⟩
            rw [hsb] at HSU9
            have HSB := Lib.hid hsb
            clear hsb q0 q1 q2
            go_wp2_with fail
            refine HSU9.out.mono ?_
            rintro e wp ⟨rfl, hbp⟩
            have HKP := Lib.hid (HBW.out.trans (hbp.mono HBW.out.size))
            clear hbp
            cases sb
            · go_wp2_with fail
              refine (HAW.out _).mono ?_
              rintro e wz ⟨rfl, hbz⟩
              have HKZ := Lib.hid (HKw5.out.trans ((HKP.out.trans (hbz.mono HKP.out.size)).mono HKw5.out.size))
              clear hbz
              go_wp2_with fail
              go_ret
              exact ⟨rfl, HKZ.out⟩
            · have hs0 : sp = 0 := by
                have h1 := HOK.out.sure HSB.out (by rw [HNC.out])
                rw [HLEQ.out, HSN.out] at h1
                exact h1
              subst hs0
              obtain ⟨q0, q1, q2⟩ := HQC.out _ HKP.out
              go_wp2_with fail
              refine (HSPL.out _ HKP.out).mono ?_
              rintro e wp2 ⟨rfl, hbp2⟩
              have HKP2 := Lib.hid (HKP.out.trans (hbp2.mono HKP.out.size))
              clear hbp2 q0 q1 q2
              go_wp2_with fail
              refine (HAW.out _).mono ?_
              rintro e wz ⟨rfl, hbz⟩
              have HKZ := Lib.hid (HKw5.out.trans ((HKP2.out.trans (hbz.mono HKP2.out.size)).mono HKw5.out.size))
              clear hbz
              go_wp2_with fail
              go_ret
              exact ⟨rfl, HKZ.out⟩
      · have hE12 : E = 12 ∧ z < t := by
          rcases hwhy with ⟨h1, _⟩ | ⟨_, h2, _⟩ | ⟨_, _, h3, h4⟩ | ⟨_, _, _, h4⟩
          · exact absurd HR.out h1
          · exact absurd HC.out h2
          · rw [HT.out, HNC.out, HZ.out] at h3
            exact ⟨h4, h3⟩
          · exact absurd h4 hE0
        obtain ⟨rfl, hzt⟩ := hE12
        have htz : ¬ t ≤ z := by omega
        have htzd : decide (t ≤ z) = false := decide_eq_false htz
        obtain ⟨w4, Q, hw4, hQ, hQl, hbw4, hQb⟩ := box_any wg #[.int .i64 0, .int .u32 0, .slice none 0 0] 26
        have HQB := Lib.hid hQb
        obtain ⟨w5, hw5⟩ : ∃ w5, w4.setRow Q #[.int .i64 0, .int .u32 0, .slice none 0 0] = w5 := ⟨_, rfl⟩
        have hbw5 : Below wg.heap.size wg w5 := by rw [← hw5]; exact below_row hbw4 (by omega) _
        have HKw5 := Lib.hid (HKg.out.trans (hbw5.mono HKg.out.size))
        have HQC : Hid (∀ W, Below w5.heap.size w5 W → W.cell? ⟨Q, 0, none⟩ = some (.int .i64 0) ∧ W.cell? ⟨Q, 1, none⟩ = some (.int .u32 0) ∧ W.cell? ⟨Q, 2, none⟩ = some (.slice none 0 0)) := Lib.hid (by
          have hq : w5.heap[Q]? = some (.cells #[.int .i64 0, .int .u32 0, .slice none 0 0] 26 (0, 0)) := by rw [← hw5]; exact setRow_heap _ _ _ _ _ _ hQb
          exact fun W hk => three_heads (keep_block hq hk))
        clear hbg hbw4 hbw5 hQb hwhy hE0
        unfold planA
        go_wp2_with (refine wpList_store_row rfl _ _ _ rfl Q #[.int .i64 0, .int .u32 0, .slice none 0 0] rfl rfl 26 _ HQB.out (Tryz.sizePn _ _ _) rfl (one3 _ _ _ _ _) ?_)
        refine (HAW.out _).mono ?_
        rintro e wz ⟨rfl, hbz⟩
        have HKZ := Lib.hid (HKw5.out.trans (hbz.mono HKw5.out.size))
        clear hbz
        go_wp2_with fail
        go_ret
        exact ⟨rfl, HKZ.out⟩
    · obtain ⟨X, hX⟩ : ∃ X, chkT f qs = X := ⟨_, rfl⟩
      have HX := Lib.hid hX
      have hx : X ≠ 0 := by rw [← hX]; exact hc
      have HC := Lib.hid hc
      rw [hX]
      have hbx : (X != 0) = true := by simpa using hx
      clear hX hc hx
      go_wp2_with fail
      refine (HFS.out _ HKd.out).mono ?_
      rintro e wx ⟨E2, hwhy2, hbx, rfl⟩
      have hne : E2 ≠ 0 := fun h0 => by
        rw [h0] at hwhy2
        have hok := hwhy2.zero
        exact HC.out hok.chk
      have hbd : decide (E2 = 0) = false := decide_eq_false hne
      rw [hbd]
      have HKX := Lib.hid (HKd.out.trans (hbx.mono HKd.out.size))
      clear hbx hwhy2 hne hbd
      go_wp2_with fail
      refine (HAW.out _).mono ?_
      rintro e wz ⟨rfl, hbz⟩
      have HKZ := Lib.hid (HKX.out.trans (hbz.mono HKX.out.size))
      clear hbz
      go_wp2_with fail
      go_ret
      exact ⟨rfl, HKZ.out⟩
  · have HR := Lib.hid hr
    refine ((HRI.out _).2 hr).mono ?_
    rintro e wc ⟨rfl, hbc⟩
    have HKc := Lib.hid (HKwb.out.trans (hbc.mono HKwb.out.size))
    clear hbc hr p0 p1 p2 hwb hwa hP
    go_wp2_with fail
    refine (HFS.out _ HKc.out).mono ?_
    rintro e wx ⟨E2, hwhy2, hbx, rfl⟩
    have hne : E2 ≠ 0 := fun h0 => by
      rw [h0] at hwhy2
      have hok := hwhy2.zero
      exact HR.out hok.right
    have hbd : decide (E2 = 0) = false := decide_eq_false hne
    rw [hbd]
    have HKX := Lib.hid (HKc.out.trans (hbx.mono HKc.out.size))
    clear hbx hwhy2 hne hbd
    go_wp2_with fail
    refine (HAW.out _).mono ?_
    rintro e wz ⟨rfl, hbz⟩
    have HKZ := Lib.hid (HKX.out.trans (hbz.mono HKX.out.size))
    clear hbz
    go_wp2_with fail
    go_ret
    exact ⟨rfl, HKZ.out⟩
end Go.Proofs.YtpfpojehcjmfnaaGreat
