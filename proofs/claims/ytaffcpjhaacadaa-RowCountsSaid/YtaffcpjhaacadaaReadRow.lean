/-
  A row of ints that a call made; the program's readRow; slices.Clone of ints.
  Conditions: readRow for no more than 16 numbers, Clone for no more than 1000.
-/
import Derived.Test.YtaffcpjhaacadaaLists
import Derived.Test.YtaffcpjhaacadaaRowMath
import Derived.Test.YtaffcpjhaacadaaReader
import Derived.Laws.MakeOwn
import Derived.OpenShut
set_option linter.unusedVariables false
namespace Go.Proofs.Ytaffcpjhaacadaa
open Go.RowKit

def zeros (n : Nat) : List Int := List.replicate n 0
theorem zeros_set (a : List Int) (n : Nat) (x : Int) : (a ++ zeros (n + 1)).set a.length x = (a ++ [x]) ++ zeros n := by
  rw [List.set_append_right _ _ (Nat.le_refl _), Nat.sub_self]
  simp [zeros, List.replicate_succ]
theorem zeros_get (a : List Int) (n : Nat) : (a ++ zeros (n + 1))[a.length]? = some 0 := by
  rw [List.getElem?_append_right (Nat.le_refl _), Nat.sub_self]
  simp [zeros, List.replicate_succ]
def rowC (xs : List Int) : Array Value := (xs.map (Value.int .i64)).toArray
/-- Block g is just the numbers xs, none frozen. -/
def RowB (W : World) (g : Nat) (xs : List Int) : Prop := W.heap[g]? = some (.cells (rowC xs) 3 (0, 0))
theorem rowC_get (xs : List Int) (j : Nat) : (rowC xs)[j]? = (xs[j]?).map (Value.int .i64) := by simp [rowC]
theorem rowC_set (xs : List Int) (j : Nat) (x : Int) : (rowC xs).setIfInBounds j (.int .i64 x) = rowC (xs.set j x) := by simp [rowC, List.map_set]
theorem RowB.lt {W : World} {g : Nat} {xs : List Int} (h : RowB W g xs) : g < W.heap.size := heap_lt h
theorem RowB.cell {W : World} {g : Nat} {xs : List Int} (h : RowB W g xs) {j : Nat} {x : Int} (hx : xs[j]? = some x) : W.cell? ⟨g, j, none⟩ = some (.int .i64 x) := by
  rw [cell_of_row W g j _ _ (0, 0) h, rowC_get, hx]; rfl
theorem RowB.frozen {W : World} {g : Nat} {xs : List Int} (h : RowB W g xs) (j : Nat) : W.frozen? ⟨g, j, none⟩ = false := by
  unfold RowB at h
  simp [World.frozen?, h]
theorem RowB.set_ {W : World} {g : Nat} {xs : List Int} (h : RowB W g xs) (j : Nat) (x : Int) : RowB (W.setCell ⟨g, j, none⟩ (.int .i64 x)) g (xs.set j x) := by
  unfold RowB at h ⊢
  rw [← rowC_set]
  simp [World.setCell, Array.getElem?_modify, h]
theorem RowB.apart {F : Nat → Prop} {W W' : World} {g : Nat} {xs : List Int} (h : RowB W g xs) (ha : Apart F W W') (hF : ¬ F g) : RowB W' g xs := (ha.block g h.lt hF).trans h
theorem RowB.ints {W : World} {g : Nat} {xs : List Int} (h : RowB W g xs) (hl : xs.length ≤ 9223372036854775807) (c : Nat) : IntsAt W (.slice (some ⟨g, 0, none⟩) xs.length c) xs :=
  ⟨_, _, rfl, hl, fun _ => ⟨g, 0, rfl, h.lt, fun j x hx => by rw [Nat.zero_add]; exact h.cell hx⟩⟩
theorem RowB.new (W : World) (xs : List Int) : RowB (W.alloc (.cells (rowC xs) 3)) W.heap.size xs := heap_alloc_new W _
theorem madeCells_one (z : Value) (n : Nat) : madeCells #[z] n = (List.replicate n z).toArray := by
  apply Array.toList_inj.1
  rw [List.toList_toArray]
  apply List.ext_getElem?
  intro j
  by_cases hj : j < n
  · simp [madeCells, hj, Nat.mod_one]
  · simp [madeCells, hj]
set_option maxRecDepth 100000 in
/-- make([]int, n). -/
theorem mk_ints (W : World) (n : Nat) (h : n ≤ 1000) : (Instr.makeSlice 39 (.int .i64 (n : Int)) (.int .i64 (n : Int))).run Try.prog W = .ok (.slice (some ⟨W.heap.size, 0, none⟩) n n) (W.alloc (.cells (rowC (zeros n)) 3)) := by
  obtain ⟨i, hi, e⟩ := Option.map_eq_some_iff.1 Try.infoInt
  simp only [Prod.mk.injEq] at e
  obtain ⟨e1, e2, e3⟩ := e
  have hr := run_make (P := Try.prog) W 39 3 i (.int .i64 0) Try.underlying39 hi e1 .i64 .i64 n n (by omega) (Int.le_refl _) (by rw [e3]; omega) (by omega)
  rw [hr, e2]
  simp only [Int.toNat_natCast, Nat.mul_one]
  congr 2
  rw [show (Value.int .i64 0).cells = #[.int .i64 0] from rfl, madeCells_one]
  simp [rowC, zeros]

/-- What readRow answers. -/
def RowP (g m : Nat) (b : List Nat) (e : Int) (w : World) (x : Ending) (w' : World) : Prop :=
  x = .returned (.slice (some ⟨w.heap.size, 0, none⟩) m m) ∧ RowB w' w.heap.size ((rdL 200 b e m).1.map fun n : Nat => (n : Int)) ∧ Apart (fun k => k = g) w w' ∧ ReaderAt w' g (rdL 200 b e m).2.1 (rdL 200 b e m).2.2

set_option maxRecDepth 100000 in
set_option maxHeartbeats 2000000 in
theorem readRow_any (g m : Nat) (b : List Nat) (e : Int) (w : World) (hr : ReaderAt w g b e) (hm : m ≤ 16) : Calls Try.prog 41 #[.pointer (some ⟨g, 0, none⟩), .int .i64 m] w (RowP g m b e w) := by
  have hmk := mk_ints w m (by omega)
  have hb1 := below_new (W := w) (.cells (rowC (zeros m)) 3)
  have HB1 := Lib.hid (Apart.of_below (F := fun k => k = g) hb1)
  have HN1 := Lib.hid (RowB.new w (zeros m))
  have HR1 := Lib.hid (hr.keep hb1)
  have hgl := hr.lt
  have HGL := Lib.hid hgl
  obtain ⟨nb, hnb⟩ : ∃ nb, nb = w.heap.size := ⟨_, rfl⟩
  have hmz : (0 : Int) ≤ (m : Int) := by omega
  clear hr hb1 hgl
  have HNB := Lib.hid hnb
  rw [← hnb] at hmk HN1
  clear hnb
  go_enter Try.func41, Try.ntmps41
  go_wp2_with fail
  go_loopg [11] m (fun gg s11 wr => ∃ k : Nat, k ≤ m ∧ gg = m - k ∧ s11 = .int .i64 k ∧ Apart (fun k => k = g) w wr ∧ ReaderAt wr g (rdL 200 b e k).2.1 (rdL 200 b e k).2.2 ∧ RowB wr nb (((rdL 200 b e k).1.map fun n : Nat => (n : Int)) ++ zeros (m - k)))
  case atStart => exact ⟨0, Nat.zero_le _, rfl, rfl, HB1.out, HR1.out, HN1.out⟩
  case round =>
    obtain ⟨k, hk, hg, rfl, ha, hrd, hrow⟩ := hrel
    have HG := Lib.hid hg
    have HA := Lib.hid ha
    have HRD := Lib.hid hrd
    have HRW := Lib.hid hrow
    clear hg ha hrd hrow
    by_cases hlt : k < m
    · have hltz : (k : Int) < (m : Int) := by omega
      have hx1 : rdL 200 b e (k + 1) = ((rdL 200 b e k).1 ++ [(numT (rdL 200 b e k).2.1 (rdL 200 b e k).2.2 200).1], (numT (rdL 200 b e k).2.1 (rdL 200 b e k).2.2 200).2) := rfl
      have hyl := numT_le (rdL 200 b e k).2.1 (rdL 200 b e k).2.2 200
      have hkl := rdL_length 200 b e k
      generalize rdL 200 b e k = RK at *
      obtain ⟨xs, bk, ek⟩ := RK
      simp only at *
      obtain ⟨Y, by_, ey, hTK⟩ : ∃ n b e, numT bk ek 200 = (n, b, e) := ⟨_, _, _, rfl⟩
      rw [hTK] at hx1 hyl
      have HTK := Lib.hid hTK
      have HX1 := Lib.hid hx1
      have HKL := Lib.hid hkl
      have hyw : IntKind.i64.wrap (Y : Int) = (Y : Int) := by rw [IntWalk.i64_in _ (by simp only at hyl; omega)]
      have HCALL := Lib.hid (read_any g bk ek 200 wr (by decide) HRD.out)
      rw [hTK] at HCALL
      clear hx1 hTK hkl
      go_wp2_with fail
      refine HCALL.out.mono ?_
      rintro x w2 ⟨rfl, ha2, hr2⟩
      have HROW2 := Lib.hid (HRW.out.apart ha2 (by have := HGL.out; have := HNB.out; omega))
      have hl0 : (xs.map fun n : Nat => (n : Int)).length = k := by rw [List.length_map]; exact HKL.out
      obtain ⟨d, hd⟩ : ∃ d, m - k = d + 1 := ⟨m - k - 1, by omega⟩
      have hrow2 := HROW2.out
      rw [hd] at hrow2
      have hck : w2.cell? ⟨nb, k, none⟩ = some (.int .i64 0) := hrow2.cell (by rw [← hl0]; exact zeros_get _ _)
      have hfk := hrow2.frozen k
      have HS := Lib.hid (show RowB (w2.setCell ⟨nb, k, none⟩ (.int .i64 Y)) nb (((xs ++ [Y]).map fun n : Nat => (n : Int)) ++ zeros (m - (k + 1))) by
        have h := hrow2.set_ k Y
        have e1 : ((xs.map fun n : Nat => (n : Int)) ++ zeros (d + 1)).set k (Y : Int) = ((xs ++ [Y]).map fun n : Nat => (n : Int)) ++ zeros (m - (k + 1)) := by
          have := zeros_set (xs.map fun n : Nat => (n : Int)) d Y
          rw [hl0] at this
          rw [this, show m - (k + 1) = d by omega]
          simp
        rw [e1] at h
        exact h)
      have HA2 := Lib.hid ((HA.out.trans ha2 (fun _ _ h => h)).set (p := ⟨nb, k, none⟩) (.inr (by show w.heap.size ≤ nb; have := HNB.out; omega)) (.int .i64 Y))
      have HR2 := Lib.hid (hr2.elsewhere (b := nb) (o := k) (by have := HGL.out; have := HNB.out; omega) (.int .i64 Y))
      clear ha2 hr2 hrow2 hl0 hd
      go_wp2_with fail
      go_roundg (m - (k + 1))
      case measure => have := HG.out; omega
      case rel =>
        refine ⟨k + 1, by omega, rfl, by go_num, HA2.out, ?_, ?_⟩
        · rw [HX1.out]; exact HR2.out
        · rw [HX1.out]; exact HS.out
    · have hltz : ¬ (k : Int) < (m : Int) := by omega
      have hkm : k = m := by omega
      subst hkm
      have hlast := HRW.out
      rw [Nat.sub_self, show zeros 0 = [] from rfl, List.append_nil] at hlast
      have HL := Lib.hid hlast
      clear hlast
      go_wp2_with fail
      go_ret
      refine ⟨?_, ?_, HA.out, HRD.out⟩
      · rw [← HNB.out]; rfl
      · rw [← HNB.out]; exact HL.out
end Go.Proofs.Ytaffcpjhaacadaa
