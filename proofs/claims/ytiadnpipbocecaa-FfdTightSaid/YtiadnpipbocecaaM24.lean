/-
  Pieces and places held against each other.
  Conditions: the slices read as pieces.
-/
import Derived.Test.YtiadnpipbocecaaM23
import Derived.Test.YtiadnpipbocecaaM02
import Derived.OpenShut
import Derived.ChangeSlices
import Derived.ChangeOld
import Derived.ChangeArms
import Derived.Deep.SlicePairs
import Derived.Deep.Slices
import Derived.Deep.Fields
import Derived.Lib.SmallJoins
import Derived.Test.YtiadnpipbocecaaM05

/-
  The law of what is sure: FfdSure.
  Conditions: the numbers are ints; the slice reads as wants.
-/
set_option linter.unusedVariables false
set_option linter.unusedSimpArgs false
namespace Go.Proofs.Ytiadnpipbocecaa
open Go.RowKit

theorem all_cores (N : Nat) (h1 : 1 ≤ N) (h2 : N ≤ 16) : ∃ M : Nat, ((2 : Int) ^ N - 1) % 4294967296 = (M : Int) ∧ M < 65536 ∧ coresN M = N := by
  have h : N = 1 ∨ N = 2 ∨ N = 3 ∨ N = 4 ∨ N = 5 ∨ N = 6 ∨ N = 7 ∨ N = 8 ∨ N = 9 ∨ N = 10 ∨ N = 11 ∨ N = 12 ∨ N = 13 ∨ N = 14 ∨ N = 15 ∨ N = 16 := by omega
  rcases h with rfl | rfl | rfl | rfl | rfl | rfl | rfl | rfl | rfl | rfl | rfl | rfl | rfl | rfl | rfl | rfl
  · exact ⟨1, by decide, by decide, by decide +kernel⟩
  · exact ⟨3, by decide, by decide, by decide +kernel⟩
  · exact ⟨7, by decide, by decide, by decide +kernel⟩
  · exact ⟨15, by decide, by decide, by decide +kernel⟩
  · exact ⟨31, by decide, by decide, by decide +kernel⟩
  · exact ⟨63, by decide, by decide, by decide +kernel⟩
  · exact ⟨127, by decide, by decide, by decide +kernel⟩
  · exact ⟨255, by decide, by decide, by decide +kernel⟩
  · exact ⟨511, by decide, by decide, by decide +kernel⟩
  · exact ⟨1023, by decide, by decide, by decide +kernel⟩
  · exact ⟨2047, by decide, by decide, by decide +kernel⟩
  · exact ⟨4095, by decide, by decide, by decide +kernel⟩
  · exact ⟨8191, by decide, by decide, by decide +kernel⟩
  · exact ⟨16383, by decide, by decide, by decide +kernel⟩
  · exact ⟨32767, by decide, by decide, by decide +kernel⟩
  · exact ⟨65535, by decide, by decide, by decide +kernel⟩

set_option maxRecDepth 100000 in
set_option maxHeartbeats 4000000 in
theorem sure_law (f c : Int) (v : Value) (ps : List Sp) (w : World) (h : ArgAt w v ps) (hi : IntsS ps) :
    Calls Try.prog 4 #[.int .i64 f, .int .i64 c, v] w (RetB (.bool true) w) := by
  have HAW := Lib.hid (fun W => awake_any W)
  have harg := h
  obtain ⟨A, d, rfl, hc1, hc2, hnil, _⟩ := h
  have hs := harg.cut 100 (by decide)
  have hi' := hi.take 100
  have hlq : (ps.take 100).length ≤ 100 := by rw [List.length_take]; omega
  have hm : min (ps.length : Int) 100 = ((min ps.length 100 : Nat) : Int) := by omega
  have hmle : min ps.length 100 ≤ ps.length := Nat.min_le_left _ _
  generalize ps.take 100 = qs at *
  generalize ps.length = n at *
  generalize min n 100 = q at *
  have hmc : (q : Int) ≤ (d : Int) := by omega
  have hm0 : (0 : Int) ≤ (q : Int) := by omega
  have HS := Lib.hid hs
  have HSU := Lib.hid (sure_any f c _ qs w hs hi')
  have HRS := Lib.hid (fun w h => refSure_any f c (.slice A q d) qs w h hi')
  have HI := Lib.hid hi'
  obtain ⟨b, hb⟩ : ∃ b, sureT f c qs = b := ⟨_, rfl⟩
  rw [hb] at HSU HRS
  have HB := Lib.hid hb
  have hbb : (b != b) = false := by simp
  clear harg hi hi' hs hnil hb
  cases b with
  | false =>
    go_enter Try.func4, Try.ntmps4
    go_wp2_with fail
    refine HSU.out.mono ?_
    rintro e w1 ⟨rfl, hb1⟩
    have HB1 := Lib.hid hb1
    clear hb1
    go_wp2_with fail
    refine (HRS.out _ (HS.out.keep HB1.out)).mono ?_
    rintro e w2 ⟨rfl, hb2⟩
    have HB2 := Lib.hid (HB1.out.trans (hb2.mono HB1.out.size))
    clear hb2
    go_wp2_with fail
    refine (HAW.out _).mono ?_
    rintro e w3 ⟨rfl, hb3⟩
    have HB3 := Lib.hid (HB2.out.trans (hb3.mono HB2.out.size))
    clear hb3
    go_wp2_with fail
    go_ret
    exact ⟨rfl, HB3.out⟩
  | true =>
    have hsure := HB.out
    unfold sureT at hsure
    rw [Bool.and_eq_true, Bool.and_eq_true, decide_eq_true_iff, decide_eq_true_iff] at hsure
    obtain ⟨hchk, ⟨hcl, hcu⟩, _⟩ := hsure
    obtain ⟨⟨hf1, hf2⟩, _⟩ := chk_small hchk
    have HCH := Lib.hid hchk
    obtain ⟨N, rfl⟩ : ∃ N : Nat, c = (N : Int) := ⟨c.toNat, by omega⟩
    obtain ⟨M, hM, hM16, hMc⟩ := all_cores N (by omega) (by omega)
    have HM := Lib.hid hM
    have hR : Right f M [] := right_nil hf1 hf2 (by omega) hM16
    have HGO := Lib.hid (show Goes f M [] qs from ⟨hR, hchk, by unfold anyB; rw [List.any_eq_false]; intro w _; simp [findU]⟩)
    have HNO := Lib.hid (sure_none HB.out (by rw [hMc]) hR)
    have HFT := Lib.hid (fun w h => fit_any f M (.slice none 0 0) [] (.slice A q d) qs w (PlsIn.nil _ _) light_nil h HI.out (by omega) (by simp; omega))
    unfold planA at HFT
    clear hchk hM hMc hR
    go_enter Try.func4, Try.ntmps4
    go_wp2_with fail
    refine HSU.out.mono ?_
    rintro e w1 ⟨rfl, hb1⟩
    have HB1 := Lib.hid hb1
    clear hb1
    go_wp2_with fail
    refine (HRS.out _ (HS.out.keep HB1.out)).mono ?_
    rintro e w2 ⟨rfl, hb2⟩
    have HB2 := Lib.hid (HB1.out.trans (hb2.mono HB1.out.size))
    clear hb2
    go_wp2_with fail
    have hE : Hid (((2 : Int) ^ N - 1) % 4294967296 = (M : Int)) := HM
    rw [hE.out]
    refine (HFT.out _ (HS.out.keep HB2.out)).mono ?_
    rintro e w3 ⟨E, hwhy, hb3, hcase⟩
    have hE0 : E = 0 := hwhy.unique HGO.out.why
    obtain ⟨_, v3, vo, rfl, hpl, hov⟩ := hcase.resolve_right fun h => h.1 hE0
    have HB3 := Lib.hid (HB2.out.trans (hb3.mono HB2.out.size))
    rw [HNO.out] at hov
    obtain ⟨A3, d3, rfl, _, _⟩ := hpl.form
    obtain ⟨A4, d4, rfl, _⟩ := hov
    obtain ⟨n3, hn3⟩ : ∃ n3, (fitT f M [] (sortT qs)).1.length = n3 := ⟨_, rfl⟩
    rw [hn3]
    obtain ⟨w4, Q, hw4, hQ, hQl, hb4, hqb⟩ := box_any w3 #[.int .i64 0, .int .u32 0, .slice none 0 0] 25
    have HQB := Lib.hid hqb
    obtain ⟨w5, hw5⟩ : ∃ w5, w4.setRow Q #[.int .i64 f, .int .u32 M, .slice A3 n3 d3] = w5 := ⟨_, rfl⟩
    have hb5 : Below w3.heap.size w3 w5 := by rw [← hw5]; exact below_row hb4 (by omega) _
    have HB5 := Lib.hid (HB3.out.trans (hb5.mono HB3.out.size))
    have hl0 : ([] : List Sp).length = 0 := rfl
    clear hb3 hb4 hb5 hqb hpl hwhy hE0 hn3
    rw [hl0]
    unfold planA
    go_wp2_with (refine wpList_store_row rfl _ _ _ rfl Q #[.int .i64 f, .int .u32 M, .slice A3 n3 d3] rfl rfl 25 _ HQB.out (Try.sizePn _ _ _) rfl (one3 _ _ _ _ _) ?_)
    refine (HAW.out _).mono ?_
    rintro e w6 ⟨rfl, hb6⟩
    have HB6 := Lib.hid (HB5.out.trans (hb6.mono HB5.out.size))
    clear hb6 hw5
    go_wp2_with fail
    go_ret
    exact ⟨rfl, HB6.out⟩
end Go.Proofs.Ytiadnpipbocecaa

/-
  An argument that is a plan, opened: its frame, its cores, its places, each with its pieces.
  Conditions: the reading itself.
-/
set_option linter.unusedVariables false
namespace Go.Proofs.Ytiadnpipbocecaa
open Go.ChangeShapes Go.WideShapes Go.RowKit Go.Deep

theorem Try.ownKnob : ownKnob Try.prog.godebug = none := by kernel_rfl
theorem Try.laidOut : laidOutB Try.prog = true := by kernel_rfl
theorem Try.cellsInt : Try.prog.cellsOf 3 = 1 := by kernel_rfl
theorem Try.cellsU64 : Try.prog.cellsOf 58 = 1 := by kernel_rfl
theorem Try.cellsPcs : Try.prog.cellsOf 36 = 1 := by kernel_rfl
theorem Try.cellsPc : Try.prog.cellsOf 60 = 2 := by kernel_rfl
theorem Try.cellsPl : Try.prog.cellsOf 38 = 4 := by kernel_rfl
theorem Try.cellsPn : Try.prog.cellsOf 25 = 3 := by kernel_rfl

theorem cell_lt {w : World} {b o : Nat} {v : Value} (h : w.cell? ⟨b, o, none⟩ = some v) : b < w.heap.size := by
  rcases Nat.lt_or_ge b w.heap.size with h1 | h1
  · exact h1
  · simp [World.cell?, Array.getElem?_eq_none h1] at h
theorem bounds_i64 {n : Int} (h : (Lit.int .i64 n).wf = true) : -9223372036854775808 ≤ n ∧ n ≤ 9223372036854775807 := by
  have e1 : IntKind.i64.min = -9223372036854775808 := by decide +kernel
  have e2 : IntKind.i64.max = 9223372036854775807 := by decide +kernel
  simp [Lit.wf] at h
  omega
theorem nat_of_u64 {n : Int} (h : (Lit.int .u64 n).wf = true) : ∃ m : Nat, n = (m : Int) ∧ m < 18446744073709551616 := by
  have e1 : IntKind.u64.min = 0 := by decide +kernel
  have e2 : IntKind.u64.max = 18446744073709551615 := by decide +kernel
  simp [Lit.wf] at h
  exact ⟨n.toNat, by omega, by omega⟩
theorem nat_of_u32 {n : Int} (h : (Lit.int .u32 n).wf = true) : ∃ m : Nat, n = (m : Int) ∧ m < 4294967296 := by
  have e1 : IntKind.u32.min = 0 := by decide +kernel
  have e2 : IntKind.u32.max = 4294967295 := by decide +kernel
  simp [Lit.wf] at h
  exact ⟨n.toNat, by omega, by omega⟩
def numOf : Value → Int
  | .int _ q => q
  | _ => 0
theorem array3 {α : Type} {cs : Array α} (h : cs.size = 3) : ∃ c0 c1 c2, cs = #[c0, c1, c2] := by
  obtain ⟨l⟩ := cs
  match l, h with
  | [c0, c1, c2], _ => exact ⟨c0, c1, c2, rfl⟩
theorem list3 {α : Type} {xs : List α} (h : xs.length = 3) : ∃ c0 c1 c2, xs = [c0, c1, c2] := by
  match xs, h with
  | [c0, c1, c2], _ => exact ⟨c0, c1, c2, rfl⟩
theorem list4 {α : Type} {xs : List α} (h : xs.length = 4) : ∃ c0 c1 c2 c3, xs = [c0, c1, c2, c3] := by
  match xs, h with
  | [c0, c1, c2, c3], _ => exact ⟨c0, c1, c2, c3, rfl⟩

/-- A struct of three one-cell fields, by value, opened. -/
theorem open_three {H : Type} {enc : TypeId × Value → H} {P : Program} {w : World} {base : Nat} {spare : Nat → Bool} {held : Bool} {r : Reach} {b0 : Nat} {t : TypeId} {f0 f1 f2 : Field} {v : Value} {d : DataW H} {p : List MemPlace} (hs : P.underlying t = some (.struct #[f0, f1, f2]))
    (hone : Go.Deep.oneCellFields P #[f0, f1, f2] = true) (hC : P.cellsOf t = 3) (hv : Value.okWide P w r b0 t v) (h : DataW.Trod enc P w base spare held t v d p) :
    ∃ (v0 v1 v2 : Value) (y0 y1 y2 : DataW H × List MemPlace) (n : Nat), v = .agg #[v0, v1, v2] ∧
      DataW.trod enc P w base spare held n f0.type [v0] = some y0 ∧ DataW.trod enc P w base spare held n f1.type [v1] = some y1 ∧ DataW.trod enc P w base spare held n f2.type [v2] = some y2 := by
  obtain ⟨cs, rfl, hsz⟩ := okWide_struct hs hv
  obtain ⟨c0, c1, c2, rfl⟩ := array3 (hsz.trans hC)
  obtain ⟨fuel, hf⟩ := h
  obtain ⟨xs, n, _, _, _, hlen, hfld⟩ := DataW.trod_struct hs hf
  obtain ⟨y0, y1, y2, rfl⟩ := list3 hlen
  have g0 := hfld 0 f0 rfl
  obtain ⟨o0, k0⟩ := Go.Deep.hone_of hone 0 f0 rfl
  have g1 := hfld 1 f1 rfl
  obtain ⟨o1, k1⟩ := Go.Deep.hone_of hone 1 f1 rfl
  have g2 := hfld 2 f2 rfl
  obtain ⟨o2, k2⟩ := Go.Deep.hone_of hone 2 f2 rfl
  exact ⟨c0, c1, c2, y0, y1, y2, n, rfl, by simpa [Value.cells, o0, k0] using g0, by simpa [Value.cells, o1, k1] using g1, by simpa [Value.cells, o2, k2] using g2⟩

section
variable {H : Type} {enc : TypeId × Value → H} {W : World} {sp : Nat → Bool} {held : Bool}
theorem pcs_open {fuel : Nat} {sv : Value} {x : DataW H × List MemPlace} (h : DataW.trod enc Try.prog W 0 sp held fuel 36 [sv] = some x) : ∃ ps, PcsAt W sv ps ∧ ∀ y ∈ ps, PcOk y := by
  rcases open_slice_pairs Try.underlying36 Try.underlying60 Try.cellsPc rfl rfl Try.cellsInt Try.cellsU64 h with ⟨hcs, _⟩ | ⟨a, len, cap, m, n, V0, V1, D0, D1, P0, P1, hcs, _, hl, hm, hmm, _, hcell⟩
  · simp only [List.cons.injEq, and_true] at hcs
    subst hcs
    exact ⟨[], PcsIn.nil _ W, by intro s hs; cases hs⟩
  · simp only [List.cons.injEq, and_true] at hcs
    subst hcs
    have hlm : len ≤ m := by rw [hmm]; split <;> omega
    have hint : ∀ i, i < len → (V0 i = .int .i64 (numOf (V0 i)) ∧ Int64 (numOf (V0 i))) ∧ (V1 i = .int .u64 ((numOf (V1 i)).toNat : Nat) ∧ (numOf (V1 i)).toNat < 18446744073709551616) := by
      intro i hi
      obtain ⟨_, _, g0, g1⟩ := hcell i (by omega)
      obtain ⟨n0, e0, _, w0⟩ := DataW.trod_int Try.underlying3 g0
      obtain ⟨n1, e1, _, w1⟩ := DataW.trod_int Try.underlying58 g1
      obtain ⟨k1, rfl, hk1⟩ := nat_of_u64 w1
      simp only [List.cons.injEq, and_true] at e0 e1
      rw [e0, e1]
      exact ⟨⟨rfl, bounds_i64 w0⟩, by simp [numOf], by simpa [numOf] using hk1⟩
    have hn : ((List.range len).map fun i => (⟨numOf (V0 i), (numOf (V1 i)).toNat⟩ : Pc)).length = len := by simp
    refine ⟨(List.range len).map fun i => ⟨numOf (V0 i), (numOf (V1 i)).toNat⟩, ⟨some a, cap, by rw [hn], by rw [hn]; exact hl, by unfold maxLen at hm; omega, fun h0 => ?_⟩, fun s hs => ?_⟩
    · rw [hn] at h0
      obtain ⟨b, off, spot⟩ := a
      have hspot : spot = none := by simpa [Addr.add] using World.cell?_spot (hcell 0 (by omega)).1
      subst hspot
      refine ⟨b, off, rfl, cell_lt (by have := (hcell 0 (by omega)).1; simpa [Addr.add] using this), trivial, fun j p hp => ?_⟩
      have hj : j < len := by
        have := (List.getElem?_eq_some_iff.1 hp).1
        omega
      have hp' : p = ⟨numOf (V0 j), (numOf (V1 j)).toNat⟩ := by
        rw [List.getElem?_map, List.getElem?_range hj] at hp
        simpa using hp.symm
      subst hp'
      obtain ⟨q0, q1, _⟩ := hcell j (by omega)
      rw [add_plain] at q0 q1
      exact ⟨by rw [q0, ← (hint j hj).1.1], by rw [Nat.add_assoc, q1, ← (hint j hj).2.1]⟩
    · obtain ⟨i, hi, rfl⟩ := List.mem_map.1 hs
      have hi' : i < len := by simpa using hi
      exact ⟨(hint i hi').1.2, (hint i hi').2.2⟩
theorem place_of_cells {fuel : Nat} {cs : List Value} {x : DataW H × List MemPlace} (h : DataW.trod enc Try.prog W 0 sp held fuel 38 cs = some x) :
    ∃ p : Value × Pl, PlOk p.2 ∧ PcsAt W p.1 p.2.ps ∧ cs = [.int .i64 p.2.u, .int .i64 p.2.s, .int .i64 p.2.c, p.1] := by
  obtain ⟨xs, n, _, _, hlen, hxs, hf⟩ := DataW.trod_struct Try.underlying38 h
  rw [Try.cellsPl] at hlen
  obtain ⟨v0, v1, v2, v3, rfl⟩ := list4 hlen
  obtain ⟨x0, x1, x2, x3, rfl⟩ := list4 (show xs.length = 4 from hxs)
  have g0 : DataW.trod enc Try.prog W 0 sp held n 3 (([v0, v1, v2, v3].drop 0).take (Try.prog.cellsOf 3)) = some x0 := hf 0 _ rfl
  have g1 : DataW.trod enc Try.prog W 0 sp held n 3 (([v0, v1, v2, v3].drop 1).take (Try.prog.cellsOf 3)) = some x1 := hf 1 _ rfl
  have g2 : DataW.trod enc Try.prog W 0 sp held n 3 (([v0, v1, v2, v3].drop 2).take (Try.prog.cellsOf 3)) = some x2 := hf 2 _ rfl
  have g3 : DataW.trod enc Try.prog W 0 sp held n 36 (([v0, v1, v2, v3].drop 3).take (Try.prog.cellsOf 36)) = some x3 := hf 3 _ rfl
  rw [Try.cellsInt] at g0 g1 g2
  rw [Try.cellsPcs] at g3
  simp only [List.drop_succ_cons, List.drop_zero, List.take_succ_cons, List.take_zero] at g0 g1 g2 g3
  obtain ⟨n0, e0, _, w0⟩ := DataW.trod_int Try.underlying3 g0
  obtain ⟨n1, e1, _, w1⟩ := DataW.trod_int Try.underlying3 g1
  obtain ⟨n2, e2, _, w2⟩ := DataW.trod_int Try.underlying3 g2
  obtain ⟨ps, hx, hxo⟩ := pcs_open g3
  simp only [List.cons.injEq, and_true] at e0 e1 e2
  exact ⟨(v3, ⟨n0, n1, n2, ps⟩), ⟨bounds_i64 w0, bounds_i64 w1, bounds_i64 w2, hxo⟩, hx, by rw [e0, e1, e2]⟩
instance : Inhabited (Value × Pl) := ⟨(undef, default)⟩
theorem pls_open {fuel : Nat} {sv : Value} {x : DataW H × List MemPlace} (h : DataW.trod enc Try.prog W 0 sp held fuel 23 [sv] = some x) :
    ∃ l : List Pl, PlsAt W sv l ∧ ∀ x ∈ l, PlOk x := by
  rcases open_slice Try.underlying23 h with ⟨h1, _⟩ | ⟨a, len, cap, m, n, D, Pm, h1, _, hl, hm, hmm, _, hi⟩
  · simp only [List.cons.injEq, and_true] at h1
    subst h1
    exact ⟨[], PlsIn.nil _ W, fun a ha => by cases ha⟩
  · simp only [List.cons.injEq, and_true] at h1
    subst h1
    have hlm : len ≤ m := by rw [hmm]; split <;> omega
    have key : ∀ i, i < len → ∃ x : Value × Pl, (PlOk x.2 ∧ PcsAt W x.1 x.2.ps) ∧ W.cell? (a.add (i * 4 + 0)) = some (.int .i64 x.2.u) ∧ W.cell? (a.add (i * 4 + 1)) = some (.int .i64 x.2.s) ∧ W.cell? (a.add (i * 4 + 2)) = some (.int .i64 x.2.c) ∧ W.cell? (a.add (i * 4 + 3)) = some x.1 := by
      intro i hlt
      obtain ⟨cs', hc, ht⟩ := hi i (by omega)
      rw [Try.cellsPl] at hc
      obtain ⟨x, hok, hx, rfl⟩ := place_of_cells ht
      obtain ⟨_, _, hat⟩ := World.cells?_some hc
      refine ⟨x, ⟨hok, hx⟩, ?_, ?_, ?_, ?_⟩
      · rw [← Go.Deep.add_add, hat 0 (by decide)]; rfl
      · rw [← Go.Deep.add_add, hat 1 (by decide)]; rfl
      · rw [← Go.Deep.add_add, hat 2 (by decide)]; rfl
      · rw [← Go.Deep.add_add, hat 3 (by decide)]; rfl
    obtain ⟨f, hf⟩ := choose_lt key
    have hn : ((List.range len).map f).length = len := by simp
    refine ⟨plsOf ((List.range len).map f), ⟨(List.range len).map f, rfl, some a, cap, by rw [hn], by rw [hn]; exact hl, by unfold maxLen at hm; omega, fun h0 => ?_, ?_⟩, ?_⟩
    · rw [hn] at h0
      obtain ⟨b, off, spot⟩ := a
      have hspot : spot = none := by simpa [Addr.add] using World.cell?_spot (hf 0 (by omega)).2.1
      subst hspot
      refine ⟨b, off, rfl, cell_lt (by have := (hf 0 (by omega)).2.1; simpa [Addr.add] using this), trivial, fun j p hp => ?_⟩
      have hj : j < len := by
        have := (List.getElem?_eq_some_iff.1 hp).1
        omega
      have hp' : p = f j := by
        rw [List.getElem?_map, List.getElem?_range hj] at hp
        simpa using hp.symm
      subst hp'
      obtain ⟨_, c0, c1, c2, c3⟩ := hf j hj
      rw [add_plain] at c0 c1 c2 c3
      simp only [← Nat.add_assoc, Nat.add_zero] at c0 c1 c2 c3
      exact ⟨c0, c1, c2, c3⟩
    · intro x hx
      obtain ⟨i, hi', rfl⟩ := List.mem_map.1 hx
      exact (hf i (List.mem_range.1 hi')).1.2
    · intro x hx
      obtain ⟨p, hp, rfl⟩ := List.mem_map.1 hx
      obtain ⟨i, hi', rfl⟩ := List.mem_map.1 hp
      exact (hf i (List.mem_range.1 hi')).1.1
set_option maxRecDepth 100000 in
theorem plan_open {r : Reach} {b0 : Nat} {v : Value} {d : DataW H} {p : List MemPlace}
    (hv : Value.okWide Try.prog W r b0 25 v) (h : DataW.Trod enc Try.prog W 0 sp held 25 v d p) : ∃ (f : Int) (m : Nat) (u : Value) (l : List Pl), v = planA f m u ∧ PlsAt W u l ∧ (∀ x ∈ l, PlOk x) ∧ m < 4294967296 ∧ Int64 f := by
  obtain ⟨v0, v1, v2, y0, y1, y2, n, rfl, g0, g1, g2⟩ := open_three Try.underlying25 (by kernel_rfl) Try.cellsPn hv h
  obtain ⟨n0, e0, _, w0⟩ := DataW.trod_int Try.underlying3 g0
  obtain ⟨n1, e1, _, w1⟩ := DataW.trod_int Try.underlying22 g1
  obtain ⟨k1, rfl, hk1⟩ := nat_of_u32 w1
  obtain ⟨l, hl, ho⟩ := pls_open g2
  simp only [List.cons.injEq, and_true] at e0 e1
  subst e0 e1
  exact ⟨n0, k1, v2, l, rfl, hl, ho, hk1, bounds_i64 w0⟩
end
end Go.Proofs.Ytiadnpipbocecaa

/-
  An argument that is a slice of wants, opened: the pairs of ints that it reads as.
  Conditions: the reading itself.
-/
set_option linter.unusedVariables false
namespace Go.Proofs.Ytiadnpipbocecaa
open Go.ChangeShapes Go.WideShapes Go.RowKit Go.Deep

theorem Try.cellsWant : Try.prog.cellsOf 35 = 2 := by kernel_rfl
theorem wants_open {H : Type} {enc : TypeId × Value → H} {W : World} {sp : Nat → Bool} {held : Bool} {fuel : Nat} {sv : Value} {x : DataW H × List MemPlace}
    (h : DataW.trod enc Try.prog W 0 sp held fuel 26 [sv] = some x) : ∃ ps, ArgAt W sv ps ∧ IntsS ps := by
  rcases open_slice_pairs Try.underlying26 Try.underlying35 Try.cellsWant rfl rfl Try.cellsInt Try.cellsInt h with ⟨hcs, _⟩ | ⟨a, len, cap, m, n, V0, V1, D0, D1, P0, P1, hcs, _, hl, hm, hmm, _, hcell⟩
  · simp only [List.cons.injEq, and_true] at hcs
    subst hcs
    exact ⟨[], ⟨none, 0, rfl, Nat.le_refl _, by simp, fun _ => rfl, fun h => absurd h (by simp)⟩, by intro s hs; cases hs⟩
  · simp only [List.cons.injEq, and_true] at hcs
    subst hcs
    have hlm : len ≤ m := by rw [hmm]; split <;> omega
    have hint : ∀ i, i < len → (V0 i = .int .i64 (numOf (V0 i)) ∧ -9223372036854775808 ≤ numOf (V0 i) ∧ numOf (V0 i) ≤ 9223372036854775807) ∧ (V1 i = .int .i64 (numOf (V1 i)) ∧ -9223372036854775808 ≤ numOf (V1 i) ∧ numOf (V1 i) ≤ 9223372036854775807) := by
      intro i hi
      obtain ⟨_, _, g0, g1⟩ := hcell i (by omega)
      obtain ⟨n0, e0, _, w0⟩ := DataW.trod_int Try.underlying3 g0
      obtain ⟨n1, e1, _, w1⟩ := DataW.trod_int Try.underlying3 g1
      simp only [List.cons.injEq, and_true] at e0 e1
      rw [e0, e1]
      exact ⟨⟨rfl, bounds_i64 w0⟩, rfl, bounds_i64 w1⟩
    have hn : ((List.range len).map fun i => (numOf (V0 i), numOf (V1 i))).length = len := by simp
    refine ⟨(List.range len).map fun i => (numOf (V0 i), numOf (V1 i)), ⟨some a, cap, by rw [hn], by rw [hn]; exact hl, by unfold maxLen at hm; omega, (fun h => by cases h), fun h0 => ?_⟩, fun s hs => ?_⟩
    · rw [hn] at h0
      obtain ⟨b, off, spot⟩ := a
      have hspot : spot = none := by simpa [Addr.add] using World.cell?_spot (hcell 0 (by omega)).1
      subst hspot
      refine ⟨b, off, rfl, cell_lt (by have := (hcell 0 (by omega)).1; simpa [Addr.add] using this), fun j p hp => ?_⟩
      have hj : j < len := by
        have := (List.getElem?_eq_some_iff.1 hp).1
        omega
      have hp' : p = (numOf (V0 j), numOf (V1 j)) := by
        rw [List.getElem?_map, List.getElem?_range hj] at hp
        simpa using hp.symm
      subst hp'
      obtain ⟨q0, q1, _⟩ := hcell j (by omega)
      rw [add_plain] at q0 q1
      exact ⟨by rw [q0, ← (hint j hj).1.1], by rw [Nat.add_assoc, q1, ← (hint j hj).2.1]⟩
    · obtain ⟨i, hi, rfl⟩ := List.mem_map.1 hs
      have hi' : i < len := by simpa using hi
      exact ⟨(hint i hi').1.2, (hint i hi').2.2⟩
end Go.Proofs.Ytiadnpipbocecaa

/-
  Has a plan not too much?
  Conditions: the slice reads as places.
-/
set_option linter.unusedVariables false
namespace Go.Proofs.Ytiadnpipbocecaa
open Go.RowKit

/-- What Light tells. -/
def Lit (l : List Pl) : Prop := (∀ (k : Nat) (x : Pl), k < 300 → l[k]? = some x → x.ps.length ≤ 20) ∧ l.length ≤ 60
theorem Lit.light {l : List Pl} (h : Lit l) (ho : ∀ x ∈ l, PlOk x) : LightL l :=
  ⟨by have := h.2; omega, fun x hx => ⟨ho x hx, by
    obtain ⟨k, hk⟩ := List.mem_iff_getElem?.1 hx
    have h1 := (List.getElem?_eq_some_iff.1 hk).1
    have h2 := h.2
    have := h.1 k x (by omega) hk
    omega⟩⟩

set_option maxRecDepth 100000 in
set_option maxHeartbeats 2000000 in
theorem light_any (f : Int) (m : Nat) (v : Value) (l : List Pl) (w : World) (h : PlsAt w v l) :
    Calls Try.prog 5 #[planA f m v] w (RetIff (Lit l) w) := by
  obtain ⟨A, cA, rfl, hlc, hcm⟩ := h.form
  have HL := Lib.hid h
  obtain ⟨w1, P, hw1, hP, hPl, hb1, hbox⟩ := box_any w #[.int .i64 f, .int .u32 m, .slice A l.length cA] 25
  obtain ⟨n, hn⟩ : ∃ n, l.length = n := ⟨_, rfl⟩
  rw [hn] at HL hlc hw1 hbox ⊢
  have HN := Lib.hid hn
  have HB1 := Lib.hid hb1
  have HBOX := Lib.hid hbox
  obtain ⟨r0, r1, r2⟩ := three_heads hbox
  clear h hn hb1 hbox
  unfold planA
  go_enter Try.func5, Try.ntmps5
  go_wp2_with fail
  clear hw1 hP r0 r1 r2
  go_loopg [3] n (fun gg s3 wr => ∃ k : Nat, k ≤ n ∧ gg = n - k ∧ s3 = .int .i64 k ∧ Hid (∀ (i : Nat) (x : Pl), i < k → l[i]? = some x → x.ps.length ≤ 20) ∧ k ≤ 300 ∧ Below w1.heap.size w1 wr)
  case atStart => exact ⟨0, Nat.zero_le _, by omega, rfl, fun i x hi => absurd hi (by omega), by omega, Below.refl _ w1⟩
  case round =>
    obtain ⟨k, hk, hg, rfl, HA, hk3, hbw⟩ := hrel
    have HBW := Lib.hid hbw
    have HB := Lib.hid (HB1.out.trans (hbw.mono HB1.out.size))
    have HG := Lib.hid hg
    have hPl2 : P < wr.heap.size := Nat.lt_of_lt_of_le hPl hbw.size
    have HBX := Lib.hid ((hbw.block P hPl).trans HBOX.out)
    obtain ⟨r0, r1, r2⟩ := three_heads HBX.out
    have HLR := Lib.hid (HL.out.keep HB.out)
    clear hbw hg
    by_cases hlt : k < n
    · by_cases hl3 : k < 300
      · have hl3z : (k : Int) < 300 := by omega
        have hk0 : (0 : Int) ≤ (k : Int) := by omega
        have hltz : (k : Int) < (n : Int) := by omega
        obtain ⟨x, hx⟩ := exP_at (xs := l) (k := k) (by rw [HN.out]; exact hlt)
        obtain ⟨b, off, B, d, hA, hbl, _, ⟨c0, c1, c2, c3⟩, hps⟩ := HLR.out.at_ hx
        subst hA
        simp only at c0 c1 c2 c3
        have HX := Lib.hid hx
        have HPS := Lib.hid hps
        clear hx hps
        by_cases hp : x.ps.length ≤ 20
        · have hpz : decide ((20 : Int) < (x.ps.length : Int)) = false := decide_eq_false (by omega)
          have HE : Hid (∀ (i : Nat) (z : Pl), i < k + 1 → l[i]? = some z → z.ps.length ≤ 20) := Lib.hid (fun i z hi hz => by
            rcases Nat.lt_succ_iff_lt_or_eq.1 hi with h | rfl
            · exact HA i z h hz
            · rw [HX.out] at hz
              cases hz
              exact hp)
          go_wp2_with fail
          go_roundg (n - (k + 1))
          case measure => have := HG.out; omega
          case rel => exact ⟨k + 1, by omega, rfl, by go_num, HE.out, by omega, HBW.out⟩
        · have hpz : (20 : Int) < (x.ps.length : Int) := by omega
          have HNO := Lib.hid (show ¬ Lit l from fun h => hp (h.1 k x hl3 HX.out))
          go_wp2_with fail
          go_ret
          exact RetIff.no HNO.out HB.out
      · have hltz : (k : Int) < (n : Int) := by omega
        have hl3z : ¬ (k : Int) < 300 := by omega
        have hnz : decide ((n : Int) ≤ 60) = false := decide_eq_false (by omega)
        have HNO := Lib.hid (show ¬ Lit l from fun h => by have := h.2; have := HN.out; omega)
        go_wp2_with fail
        go_ret
        exact RetIff.no HNO.out HB.out
    · have hltz : ¬ (k : Int) < (n : Int) := by omega
      by_cases hn6 : n ≤ 60
      · have hnz : (n : Int) ≤ 60 := by omega
        have HYE := Lib.hid (show Lit l from ⟨fun i x _ hx => HA i x (by have := (List.getElem?_eq_some_iff.1 hx).1; have := HN.out; omega) hx, by rw [HN.out]; exact hn6⟩)
        go_wp2_with fail
        go_ret
        exact RetIff.yes HYE.out HB.out
      · have hnz : decide ((n : Int) ≤ 60) = false := decide_eq_false (by omega)
        have HNO := Lib.hid (show ¬ Lit l from fun h => by have := h.2; have := HN.out; omega)
        go_wp2_with fail
        go_ret
        exact RetIff.no HNO.out HB.out
end Go.Proofs.Ytiadnpipbocecaa

/-
  Pieces and places held against each other.
  Conditions: the slices read as pieces.
-/
set_option linter.unusedVariables false
namespace Go.Proofs.Ytiadnpipbocecaa
open Go.RowKit

theorem takeP_same {α : Type} {xs ys : List α} {k : Nat} {x y : α} (h : xs.take k = ys.take k) (hx : xs[k]? = some x) (hy : ys[k]? = some y) (e : x = y) : xs.take (k + 1) = ys.take (k + 1) := by
  rw [List.take_add_one, List.take_add_one, h, hx, hy, e]
theorem differP {α : Type} {xs ys : List α} {k : Nat} {x y : α} (hx : xs[k]? = some x) (hy : ys[k]? = some y) (e : x ≠ y) : xs ≠ ys := by
  rintro rfl
  rw [hx] at hy
  exact e (Option.some.inj hy)

theorem pl_no {x y : Pl} (h : x.u ≠ y.u ∨ x.s ≠ y.s ∨ x.c ≠ y.c ∨ x.ps ≠ y.ps) : decide (x = y) = false := decide_eq_false fun e => by
  subst e
  simp at h
theorem pl_same {x y : Pl} (h1 : x.u = y.u) (h2 : x.s = y.s) (h3 : x.c = y.c) : decide (x = y) = decide (x.ps = y.ps) := by
  by_cases h : x.ps = y.ps
  · rw [decide_eq_true h, decide_eq_true (Pl.ext' h1 h2 h3 h)]
  · rw [decide_eq_false h, pl_no (.inr (.inr (.inr h)))]

set_option maxRecDepth 100000 in
set_option maxHeartbeats 4000000 in
theorem refSamePlace_any (u v : Value) (x y : Pl) (w : World) (hs : PcsAt w u x.ps) (ht : PcsAt w v y.ps) :
    Calls Try.prog 12 #[plA u x, plA v y] w (RetB (.bool (decide (x = y))) w) := by
  have HA := Lib.hid hs
  have HB := Lib.hid ht
  have hbA := hs.bound
  have hbB := ht.bound
  obtain ⟨A, c, rfl⟩ := hs.form
  obtain ⟨B, d, rfl⟩ := ht.form
  have HNO := Lib.hid (@pl_no x y)
  have HSA := Lib.hid (@pl_same x y)
  obtain ⟨xu, xs, xc, ps⟩ := x
  obtain ⟨yu, ys, yc, qs⟩ := y
  simp only at *
  obtain ⟨n, hn⟩ : ∃ n, ps.length = n := ⟨_, rfl⟩
  obtain ⟨m, hm⟩ : ∃ m, qs.length = m := ⟨_, rfl⟩
  rw [hn] at HA hbA ⊢
  rw [hm] at HB hbB ⊢
  have HN := Lib.hid hn
  have HM := Lib.hid hm
  obtain ⟨R, hR⟩ : ∃ R, decide ((⟨xu, xs, xc, ps⟩ : Pl) = ⟨yu, ys, yc, qs⟩) = R := ⟨_, rfl⟩
  rw [hR] at HNO HSA ⊢
  obtain ⟨w1, P, hw1, hP, hPl, hb1, hbox⟩ := box_any w #[.int .i64 xu, .int .i64 xs, .int .i64 xc, .slice A n c] 38
  obtain ⟨w2, X, hw2, hX, hXl, hb2, hxbox⟩ := box_any w1 #[.int .i64 yu, .int .i64 ys, .int .i64 yc, .slice B m d] 38
  have HB2 := Lib.hid (hb1.trans (hb2.mono hb1.size))
  have HPB := Lib.hid (keep_block hbox hb2)
  have HXB := Lib.hid hxbox
  obtain ⟨p0, p1, p2, p3⟩ := four_heads HPB.out
  obtain ⟨q0, q1, q2, q3⟩ := four_heads hxbox
  have HA2 := Lib.hid (HA.out.keep HB2.out)
  have HBB2 := Lib.hid (HB.out.keep HB2.out)
  unfold plA
  clear hs ht hn hm hR hb1 hb2 hbox hxbox
  by_cases h1 : xu = yu
  · have e1 : (xu == yu) = true := by simpa using h1
    have e1' : (xu != yu) = false := by simpa using h1
    by_cases h2 : xs = ys
    · have e2 : (xs == ys) = true := by simpa using h2
      have e2' : (xs != ys) = false := by simpa using h2
      by_cases h3 : xc = yc
      · have e3 : (xc == yc) = true := by simpa using h3
        have e3' : (xc != yc) = false := by simpa using h3
        have HR := Lib.hid (HSA.out h1 h2 h3)
        clear h1 h2 h3
        by_cases hne : n = m
        · subst hne
          have hn2 : ((n : Int) != (n : Int)) = false := by simp
          go_enter Try.func12, Try.ntmps12
          go_wp2_with fail
          clear hw1 hP hw2 hX p0 p1 p2 p3 q0 q1 q2 q3
          go_loopg [5] n (fun g i wr => ∃ k : Nat, k ≤ n ∧ g = n - k ∧ i = .int .i64 k ∧ Hid (ps.take k = qs.take k) ∧ Below w2.heap.size w2 wr)
          case atStart => exact ⟨0, Nat.zero_le _, by omega, rfl, rfl, Below.refl _ _⟩
          case round =>
            obtain ⟨k, hk, hg, rfl, HT, hbw⟩ := hrel
            have HG := Lib.hid hg
            have HBW := Lib.hid hbw
            have HBE := Lib.hid (HB2.out.trans (hbw.mono HB2.out.size))
            obtain ⟨p0, p1, p2, p3⟩ := four_heads (keep_block HPB.out hbw)
            obtain ⟨q0, q1, q2, q3⟩ := four_heads (keep_block HXB.out hbw)
            clear hg hbw
            by_cases hlt : k < n
            · have hltz : (k : Int) < (n : Int) := by omega
              have hk0 : (0 : Int) ≤ (k : Int) := by omega
              obtain ⟨x, hx⟩ := exP_at (xs := ps) (k := k) (by rw [HN.out]; exact hlt)
              obtain ⟨y, hy⟩ := exP_at (xs := qs) (k := k) (by rw [HM.out]; exact hlt)
              obtain ⟨b, off, hAe, _, _, x0, x1⟩ := (HA2.out.keep HBW.out).at_ hx
              obtain ⟨b', off', hBe, _, _, y0, y1⟩ := (HBB2.out.keep HBW.out).at_ hy
              subst hAe hBe
              have HTN := Lib.hid (fun e => takeP_same HT hx hy e)
              have HDF := Lib.hid (fun e => differP hx hy e)
              obtain ⟨ac, at_⟩ := x
              obtain ⟨bc, bt⟩ := y
              simp only at x0 x1 y0 y1 HTN HDF
              clear hx hy
              by_cases g1 : ac = bc
              · have f1 : (ac == bc) = true := by simpa using g1
                have f1' : (ac != bc) = false := by simpa using g1
                by_cases g2 : at_ = bt
                · have f2 : ((at_ : Int) == (bt : Int)) = true := by subst g2; simp
                  have f2' : ((at_ : Int) != (bt : Int)) = false := by subst g2; simp
                  have HNX : Hid (ps.take (k + 1) = qs.take (k + 1)) := HTN.out (by rw [g1, g2])
                  clear g1 g2
                  go_wp2_with fail
                  go_quiet (fail)
                  go_wp2_with fail
                  go_roundg (n - (k + 1))
                  case measure => have := HG.out; omega
                  case rel => exact ⟨k + 1, by omega, rfl, by go_num, HNX, below_drewN HBW.out _⟩
                · have f2 : ((at_ : Int) == (bt : Int)) = false := by simp; omega
                  have f2' : ((at_ : Int) != (bt : Int)) = true := by simp; omega
                  have E : Hid (R = false) := HR.out.trans (decide_eq_false (HDF.out (fun h => g2 (by injection h))))
                  clear g1 g2
                  go_wp2_with fail
                  go_quiet (fail)
                  go_wp2_with fail
                  go_ret
                  exact ⟨ret_bool E.out.symm, below_drewN HBE.out _⟩
              · have f1 : (ac == bc) = false := by simpa using g1
                have f1' : (ac != bc) = true := by simpa using g1
                have E : Hid (R = false) := HR.out.trans (decide_eq_false (HDF.out (fun h => g1 (by injection h))))
                clear g1
                go_wp2_with fail
                go_quiet (fail)
                go_wp2_with fail
                go_ret
                exact ⟨ret_bool E.out.symm, below_drewN HBE.out _⟩
            · have hltz : ¬ (k : Int) < (n : Int) := by omega
              have E : Hid (R = true) := HR.out.trans (decide_eq_true (show ps = qs by
                have h : ps.take k = qs.take k := HT
                rwa [List.take_of_length_le (by rw [HN.out]; omega), List.take_of_length_le (by rw [HM.out]; omega)] at h))
              go_wp2_with fail
              go_ret
              exact ⟨ret_bool E.out.symm, HBE.out⟩
        · have E : Hid (R = false) := HR.out.trans (decide_eq_false (show ¬ ps = qs from fun e => hne (by rw [← HN.out, ← HM.out, e])))
          have hn2 : ((n : Int) != (m : Int)) = true := by simp; omega
          clear hne
          go_enter Try.func12, Try.ntmps12
          go_wp2_with fail
          go_ret
          exact ⟨ret_bool E.out.symm, HB2.out⟩
      · have e3 : (xc == yc) = false := by simpa using h3
        have e3' : (xc != yc) = true := by simpa using h3
        have E : Hid (R = false) := HNO.out (.inr (.inr (.inl h3)))
        clear h1 h2 h3
        go_enter Try.func12, Try.ntmps12
        go_wp2_with fail
        go_ret
        exact ⟨ret_bool E.out.symm, HB2.out⟩
    · have e2 : (xs == ys) = false := by simpa using h2
      have e2' : (xs != ys) = true := by simpa using h2
      have E : Hid (R = false) := HNO.out (.inr (.inl h2))
      clear h1 h2
      go_enter Try.func12, Try.ntmps12
      go_wp2_with fail
      go_ret
      exact ⟨ret_bool E.out.symm, HB2.out⟩
  · have e1 : (xu == yu) = false := by simpa using h1
    have e1' : (xu != yu) = true := by simpa using h1
    have E : Hid (R = false) := HNO.out (.inl h1)
    clear h1
    go_enter Try.func12, Try.ntmps12
    go_wp2_with fail
    go_ret
    exact ⟨ret_bool E.out.symm, HB2.out⟩
end Go.Proofs.Ytiadnpipbocecaa
