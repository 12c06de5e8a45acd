/-
  The document's Num of a reader that has not failed: what the program's Num answers.
  Conditions: no more than 100000 bytes.
-/
import Derived.Test.YtaffcpjhaacadaaBytesIn
import Derived.Test.YtaffcpjhaacadaaOrders
import Derived.Test.YtaffcpjhaacadaaNumMath
import Derived.RangeFuncBox
import Derived.Deep.RegionHeld3
import Derived.Laws.Rows
import Derived.Laws.Rows
set_option linter.unusedVariables false
namespace Go.Proofs.Ytaffcpjhaacadaa
open Go.RowKit

/-- The document's reader by its bytes and its error. -/
def RefP (B : Nat) (T : Nat × List Nat × Int) (w : World) (e : Ending) (w' : World) : Prop :=
  ∃ v, e = .returned (.tuple #[.agg #[v, .int .i64 T.2.2], .int .u64 T.1]) ∧ BytesIn B w' v T.2.1 ∧ Below w.heap.size w w'

theorem headT_step {f x : Nat} {l : List Nat} {i : Nat} (hx : l[i]? = some x) : headT (f + 1) (l.drop i) = if 128 ≤ x then headT f (l.drop (i + 1)) + 1 else 0 := by
  obtain ⟨hi, rfl⟩ := List.getElem?_eq_some_iff.1 hx
  rw [List.drop_eq_getElem_cons hi]
  rfl

theorem two_cells {W : World} {g : Nat} {a b : Value} {T : TypeId} (h : W.heap[g]? = some (.cells #[a, b] T (0, 0))) :
    W.cell? ⟨g, 0, none⟩ = some a ∧ W.cell? ⟨g, 1, none⟩ = some b ∧ W.frozen? ⟨g, 0, none⟩ = false ∧ W.frozen? ⟨g, 1, none⟩ = false := by
  refine ⟨?_, ?_, ?_, ?_⟩ <;> simp [World.cell?, World.frozen?, h]
theorem two_set {W : World} {g : Nat} {a b : Value} {T : TypeId} (h : W.heap[g]? = some (.cells #[a, b] T (0, 0))) (c d : Value) : ((W.setCell ⟨g, 0, none⟩ c).setCell ⟨g, 1, none⟩ d).heap[g]? = some (.cells #[c, d] T (0, 0)) := by
  simp [World.setCell, Array.getElem?_modify, h]
theorem below_two {B : Nat} {W0 W : World} {g : Nat} (h : Below B W0 W) (hg : B ≤ g) (c d : Value) : Below B W0 ((W.setCell ⟨g, 0, none⟩ c).setCell ⟨g, 1, none⟩ d) :=
  (h.setCell (p := ⟨g, 0, none⟩) hg c).setCell (p := ⟨g, 1, none⟩) hg d

theorem results_row_tmp2 {P : Program} {fn : Func} {p u : Tmp} {ty : TypeId} (h : fn.results = #[.cell p ty, .tmp u]) (tmps : Array Value) (w : World) (g : Nat) (t : TypeId) (cs : Array Value) (fr : Nat × Nat) (d : TypeDesc)
    (hp : tmps.getD p undef = .pointer (some ⟨g, 0, none⟩)) (hg : w.heap[g]? = some (.cells cs t fr))
    (hu : P.underlying ty = some d) (hd : (match d with | .struct _ | .array _ _ => true | _ => false) = true) (hi : (P.info? ty).map (·.size) = some cs.size) (x : Value) (hx : tmps.getD u undef = x) :
    (results fn tmps).run P w = .ok (.tuple #[.agg cs, x]) w := by
  rw [results_cell_tmp h, hp, hx]
  simp [asAddr, run_loadVar_row w g t ty cs fr d hg hu hd hi, Result.andThen]
theorem Try.sizeRd (a b : Value) : (Try.prog.info? 59).map (·.size) = some (#[a, b] : Array Value).size := by
  show _ = some 2
  kernel_rfl

/-- The bytes stay behind two stores into the result's block, of which they are none. -/
theorem rd_keep {W : World} {A : Option Addr} {n m g : Nat} {x : Value} {T : TypeId} {bs : List Nat} (h : BytesAt W (.slice A n m) bs) (hz : W.heap[g]? = some (.cells #[x, .int .i64 0] T (0, 0))) (hx : x = .slice none 0 0) (u v : Value) : BytesAt ((W.setCell ⟨g, 0, none⟩ u).setCell ⟨g, 1, none⟩ v) (.slice A n m) bs := by
  obtain ⟨A0, c0, e, h2, h3, h4, h5, h6⟩ := h
  injection e with e1 e2 e3
  subst e1 e2 e3
  refine ⟨A, m, rfl, h2, h3, h4, h5, fun hp => ?_⟩
  obtain ⟨b, off, e, hlt, hc⟩ := h6 hp
  refine ⟨b, off, e, by simpa using hlt, fun j z hz' => ?_⟩
  have hk := hc j z hz'
  have hne : b ≠ g := by
    rintro rfl
    subst hx
    rcases hq : off + j with _ | _ | q
    all_goals (rw [hq] at hk; simp [World.cell?, hz] at hk)
  rw [← hk]
  have e1 : ((W.setCell ⟨g, 0, none⟩ u).setCell ⟨g, 1, none⟩ v).heap[b]? = W.heap[b]? := (Below.heap_setCell _ _ _ _ hne).trans (Below.heap_setCell _ _ _ _ hne)
  simp [World.cell?, e1]

set_option maxRecDepth 100000 in
set_option maxHeartbeats 4000000 in
theorem refRead_any (B : Nat) (v : Value) (bs : List Nat) (most : Nat) (w : World) (hB : B ≤ w.heap.size) (hvi : BytesIn B w v bs) (hl : bs.length ≤ 100000) (hm : most < 18446744073709551616) :
    Calls Try.prog 30 #[.agg #[v, .int .i64 0], .int .u64 most] w (RefP B (numT bs 0 most) w) := by
  have hv := hvi.at_ hB
  have hb1 : Below w.heap.size w ((w.alloc (.cells #[v, .int .i64 0] 59)).alloc (.cells #[.slice none 0 0, .int .i64 0] 59)) := ((Below.refl _ _).alloc (Nat.le_refl _) _).alloc (by simp) _
  have hr1 : ((w.alloc (.cells #[v, .int .i64 0] 59)).alloc (.cells #[.slice none 0 0, .int .i64 0] 59)).heap[w.heap.size]? = some (.cells #[v, .int .i64 0] 59 (0, 0)) :=
    ((Below.refl _ _).alloc (Nat.le_refl _) (.cells #[.slice none 0 0, .int .i64 0] 59)).block _ (by simp) |>.trans (World.alloc_heap_new w _)
  have hz1 : ((w.alloc (.cells #[v, .int .i64 0] 59)).alloc (.cells #[.slice none 0 0, .int .i64 0] 59)).heap[w.heap.size + 1]? = some (.cells #[.slice none 0 0, .int .i64 0] 59 (0, 0)) := by
    have := World.alloc_heap_new (w.alloc (.cells #[v, .int .i64 0] 59)) (.cells #[.slice none 0 0, .int .i64 0] 59)
    rwa [World.size_alloc] at this
  have hsz1 : ((w.alloc (.cells #[v, .int .i64 0] 59)).alloc (.cells #[.slice none 0 0, .int .i64 0] 59)).heap.size = w.heap.size + 2 := by simp
  have hV1 := hv.keep hb1
  have hbytes := hv.bytes
  have HVI := Lib.hid (fun W (h : Below w.heap.size w W) => hvi.keep (h.mono hB))
  clear hvi
  obtain ⟨A, c, rfl, h1, h2, h3, h4, h5⟩ := hV1
  have HR := Lib.hid hr1
  have HZ := Lib.hid hz1
  have HB := Lib.hid hb1
  have HV := Lib.hid (hv.keep hb1)
  have HAT := Lib.hid h5
  have HS := Lib.hid hbytes
  have HK := Lib.hid (headT_le 10 bs)
  clear hv h5 h4 h3 h2 hb1
  go_enter Try.func30, Try.ntmps30
  go_upto_region 1 with fail
  generalize (w.alloc (.cells #[.slice A bs.length c, .int .i64 0] 59)).alloc (.cells #[.slice none 0 0, .int .i64 0] 59) = w1 at *
  obtain ⟨r0, r1, _, _⟩ := two_cells hr1
  clear hr1 hz1 hbytes
  have HTT := Lib.hid (fun h1 h2 => lead_value HS.out (bs := bs) h1 h2)
  have HTH := Lib.hid (fun h => lead_head HS.out (bs := bs) h)
  generalize hK : headT 10 bs = K at *
  have HKK := Lib.hid hK
  clear hK
  go_upto_region 4 with fail
  go_loopg [6] 10 (fun g s6 wr => ∃ i : Nat, g = 10 - i ∧ i ≤ 10 ∧ i ≤ bs.length ∧ s6 = .int .i64 i ∧ Hid (K = i + headT (10 - i) (bs.drop i)) ∧ wr = w1)
  case atStart => exact ⟨0, rfl, by omega, Nat.zero_le _, rfl, by unfold Hid; rw [← HKK.out]; simp, rfl⟩
  case round =>
    obtain ⟨i, hg, hi, hin, rfl, hk, rfl⟩ := hrel
    have HKI := Lib.hid hk.out
    clear hk
    by_cases hlt : i < K
    · have hi10 : i < 10 := by have := HK.out.1; omega
      have hib : i < bs.length := by have := HK.out.2; omega
      obtain ⟨b, off, rfl, hbl, hcell⟩ := HAT.out (by omega)
      obtain ⟨x, hx⟩ := ex_at (xs := bs) (k := i) hib
      have hck := hcell i x hx
      have hst := headT_step (f := 9 - i) hx
      rw [show 9 - i + 1 = 10 - i by omega] at hst
      have hx128 : 128 ≤ x := by
        rcases Nat.lt_or_ge x 128 with h | h
        · rw [if_neg (by omega)] at hst
          have := HKI.out
          rw [hst] at this
          omega
        · exact h
      rw [if_pos hx128] at hst
      have HN := Lib.hid (show K = (i + 1) + headT (10 - (i + 1)) (bs.drop (i + 1)) by
        have := HKI.out
        rw [hst] at this
        rw [show 10 - (i + 1) = 9 - i by omega]
        omega)
      have hxz : (128 : Int) ≤ (x : Int) := by omega
      clear hcell hx hst hx128
      go_wp2_with fail
      go_roundg (10 - (i + 1))
      case measure => omega
      case rel => exact ⟨i + 1, rfl, by omega, by omega, by go_num, HN.out, rfl⟩
    · have hiK : i = K := by have := HKI.out; omega
      subst hiK
      clear hlt hg
      by_cases hA : i = 10 ∨ i = bs.length
      · have HT := Lib.hid (show numT bs 0 most = (0, [], 3) by
          unfold numT
          rw [if_neg (by simp), if_pos (HTH.out hA)])
        by_cases hB : i = bs.length
        · have hlz : ¬ (i : Int) < (bs.length : Int) := by omega
          have hez : ((i : Int) == (bs.length : Int)) = true := by simp; omega
          clear hA
          go_wp2_with fail
          all_goals
            refine (refBad_any 3 wr).mono ?_
            rintro e w2 ⟨rfl, hb2⟩
            have hz2 := (hb2.block _ (by rw [hsz1]; omega)).trans HZ.out
            have HD := Lib.hid (two_set hz2 (.slice none 0 0) (.int .i64 3))
            have HBB := Lib.hid (below_two (HB.out.trans (hb2.mono HB.out.size)) (g := w.heap.size + 1) (by omega) (.slice none 0 0) (.int .i64 3))
            obtain ⟨z0, z1, z2, z3⟩ := two_cells hz2
            clear hb2 hz2 r0 r1
            dsimp only
            repeat go_step
            refine bodyPost_ret (v := .tuple #[.agg #[.slice none 0 0, .int .i64 3], .int .u64 0]) (results_row_tmp2 rfl _ _ (w.heap.size + 1) _ _ _ _ rfl HD.out Try.underlying59 rfl (Try.sizeRd _ _) _ rfl) rfl ?_
            exact ⟨_, by rw [HT.out]; rfl, by rw [HT.out]; exact BytesIn.nil _ _, HBB.out⟩
        · have h10 : i = 10 := hA.resolve_right hB
          subst h10
          have hlz : (10 : Int) < (bs.length : Int) := by omega
          clear hA
          go_wp2_with fail
          refine (refBad_any 3 wr).mono ?_
          rintro e w2 ⟨rfl, hb2⟩
          have hz2 := (hb2.block _ (by rw [hsz1]; omega)).trans HZ.out
          have HD := Lib.hid (two_set hz2 (.slice none 0 0) (.int .i64 3))
          have HBB := Lib.hid (below_two (HB.out.trans (hb2.mono HB.out.size)) (g := w.heap.size + 1) (by omega) (.slice none 0 0) (.int .i64 3))
          obtain ⟨z0, z1, z2, z3⟩ := two_cells hz2
          clear hb2 hz2 r0 r1
          dsimp only
          repeat go_step
          refine bodyPost_ret (v := .tuple #[.agg #[.slice none 0 0, .int .i64 3], .int .u64 0]) (results_row_tmp2 rfl _ _ (w.heap.size + 1) _ _ _ _ rfl HD.out Try.underlying59 rfl (Try.sizeRd _ _) _ rfl) rfl ?_
          exact ⟨_, by rw [HT.out]; rfl, by rw [HT.out]; exact BytesIn.nil _ _, HBB.out⟩
      · have hi10 : i < 10 := by omega
        have hib : i < bs.length := by omega
        have hT0 := HTT.out (by omega) (by omega)
        have HV1 := Lib.hid (HV.out.first (k := i + 1) (by omega))
        have HVAL := Lib.hid (refValue_any _ _ wr HV1.out (by rw [List.length_take]; omega))
        obtain ⟨b, off, rfl, hbl, hcell⟩ := HAT.out (by omega)
        obtain ⟨x, hx⟩ := ex_at (xs := bs) (k := i) hib
        have hck := hcell i x hx
        have hx128 : x < 128 := by
          have hst := headT_step (f := 9 - i) hx
          rw [show 9 - i + 1 = 10 - i by omega] at hst
          rcases Nat.lt_or_ge x 128 with h | h
          · exact h
          · rw [if_pos h] at hst
            have := HKI.out
            rw [hst] at this
            omega
        have hxz : ¬ (128 : Int) ≤ (x : Int) := by omega
        have h10z : ((i : Int) == 10) = false := by simp; omega
        have hlz2 : ((i : Int) == (bs.length : Int)) = false := by simp; omega
        have hNlt := valueT_lt (bs.take (i + 1))
        have HNUM := Lib.hid (fun W => refNum_any _ (valueT (bs.take (i + 1))) W (Nat.le_refl _) hNlt)
        have HSAME := Lib.hid (fun (W : World) u (hu : BytesAt W u (enc (valueT (bs.take (i + 1))))) (hb : Below wr.heap.size wr W) => refSame_any u _ _ _ W hu (HV1.out.keep hb))
        generalize hN : valueT (bs.take (i + 1)) = N at *
        have HNN := Lib.hid hN
        generalize hp : decide (enc N = bs.take (i + 1)) = p at *
        have HPP := Lib.hid hp
        generalize hnl : bs.length = n at *
        have HNL := Lib.hid hnl
        clear hnl
        clear hcell hx hx128 hA hT0 hN hp hNlt
        go_wp2_with fail
        refine HVAL.out.mono ?_
        rintro e w' ⟨rfl, rfl⟩
        have HL := Lib.hid (show ∀ W, Below wr.heap.size wr W → W.cell? ⟨w.heap.size, 0, none⟩ = some (.slice (some ⟨b, off, none⟩) n c) from fun W h => by rw [h.cell (p := ⟨w.heap.size, 0, none⟩) (by rw [hsz1]; show w.heap.size < _; omega)]; exact r0)
        have hic : (i : Int) + 1 ≤ (c : Int) := by omega
        have HWR : Hid (IntKind.i64.wrap ((i : Int) + 1) = (i : Int) + 1) := by unfold Hid; rw [IntWalk.i64_in _ (by omega)]
        have HNG : Hid (¬ ((i : Int) + 1 < 0)) := by unfold Hid; omega
        go_wp2_with fail
        have HDR := Lib.hid (show Below wr.heap.size wr wr.drew from below_drewN (Below.refl _ _) 1)
        refine wp_region_N (S1 := fun W => Below wr.heap.size wr W) (S2 := fun _ => True) (N := fun _ => false) (by kernel_rfl) ?_
        change wpAnyN _ _ _ _ _ _ _ 9 (Array.replicate 9 false) _ _
        refine wpAnyN_take false (i := 0) (v := .int .u64 N) rfl (by kernel_rfl) (by kernel_rfl) (by kernel_rfl) (fun _ _ _ h => h) (.inl ⟨by kernel_rfl, fun W hS => ?_⟩) ⟨HDR.out, fun h => by cases h⟩ ?_
        · simp [execOp, Act.eval, go_sem]
        refine wpAnyN_take false (i := 2) (v := .pointer (some ⟨w.heap.size, 0, none⟩)) rfl (by kernel_rfl) (by kernel_rfl) (by kernel_rfl) (fun _ _ _ h => h) (.inl ⟨by kernel_rfl, fun W hS => ?_⟩) ⟨HDR.out, fun h => by cases h⟩ ?_
        · simp [execOp, Act.eval, Act.put, go_sem]
        refine wpAnyN_take false (i := 3) (v := .slice (some ⟨b, off, none⟩) n c) rfl (by kernel_rfl) (by kernel_rfl) (by kernel_rfl) (fun _ _ _ h => h) (.inl ⟨by kernel_rfl, fun W hS => ?_⟩) ⟨HDR.out, fun h => by cases h⟩ ?_
        · simp [execOp, Act.eval, Act.put, go_sem, HL.out W hS.1]
        refine wpAnyN_take false (i := 4) (v := .int .i64 i) rfl (by kernel_rfl) (by kernel_rfl) (by kernel_rfl) (fun _ _ _ h => h) (.inl ⟨by kernel_rfl, fun W hS => ?_⟩) ⟨HDR.out, fun h => by cases h⟩ ?_
        · simp [execOp, Act.eval, Act.put, go_sem]
        refine wpAnyN_take false (i := 5) (v := .int .i64 ((i : Int) + 1)) rfl (by kernel_rfl) (by kernel_rfl) (by kernel_rfl) (fun _ _ _ h => h) (.inl ⟨by kernel_rfl, fun W hS => ?_⟩) ⟨HDR.out, fun h => by cases h⟩ ?_
        · simp [execOp, Act.eval, Act.put, go_sem, HWR.out]
        refine wpAnyN_take false (i := 6) (v := .slice (some ⟨b, off, none⟩) (i + 1) c) rfl (by kernel_rfl) (by kernel_rfl) (by kernel_rfl) (fun _ _ _ h => h) (.inl ⟨by kernel_rfl, fun W hS => ?_⟩) ⟨HDR.out, fun h => by cases h⟩ ?_
        · simp [execOp, Act.eval, Act.put, go_sem, hic, HNG.out]
        refine wpAnyN_step (i := 1) (by kernel_rfl) rfl (by kernel_rfl) ?_
        intro K' hK
        try simp only [Act.put]
        go_simp
        refine (HNUM.out _).mono ?_
        rintro e w3 ⟨v3, rfl, ho3, hb3⟩
        have HB3 := Lib.hid (HDR.out.trans hb3)
        have HO3 := Lib.hid ho3.bytes
        clear ho3 hb3
        refine hK.out _ _ HB3.out (fun h => absurd h (by decide)) ?_
        refine wpAnyN_step (i := 7) (by kernel_rfl) rfl (by kernel_rfl) ?_
        intro K' hK
        try simp only [Act.put]
        go_simp
        refine (HSAME.out _ _ HO3.out HB3.out).mono ?_
        rintro e w' ⟨rfl, rfl⟩
        refine hK.out _ _ HB3.out (fun h => absurd h (by decide)) ?_
        refine wpAnyN_step (i := 8) (by kernel_rfl) rfl (by kernel_rfl) ?_
        intro K' hK
        try simp only [Act.put]
        go_simp
        refine hK.out _ _ HB3.out (fun h => absurd h (by decide)) ?_
        refine wpAnyN_done (by kernel_rfl) ?_
        try simp only [Act.put]
        try go_simp
        have HZ3 := Lib.hid ((HB3.out.block _ (by rw [hsz1]; omega)).trans HZ.out)
        have HBW3 := Lib.hid (HB.out.trans (HB3.out.mono HB.out.size))
        have hlt3 : w.heap.size + 1 < w3.heap.size := by have := HB3.out.size; omega
        have r3 := HL.out w3 HB3.out
        clear r0 r1 hck hxz h10z hlz2
        cases p with
        | false =>
          have HT := Lib.hid (show numT bs 0 most = (0, [], 3) by
            unfold numT
            rw [if_neg (by simp)]
            have hd : ¬ enc N = bs.take (i + 1) := of_decide_eq_false HPP.out
            rcases HTT.out (by omega) (by omega) with ⟨h0, _⟩ | ⟨_, h1⟩
            · rw [if_pos h0]
            · exact absurd h1 hd)
          go_wp2_with fail
          refine (refBad_any 3 w3).mono ?_
          rintro e w2 ⟨rfl, hb2⟩
          have hz2 := (hb2.block _ (by omega)).trans HZ3.out
          have HD := Lib.hid (two_set hz2 (.slice none 0 0) (.int .i64 3))
          have HBB := Lib.hid (below_two (HBW3.out.trans (hb2.mono HBW3.out.size)) (g := w.heap.size + 1) (by omega) (.slice none 0 0) (.int .i64 3))
          obtain ⟨z0, z1, z2, z3⟩ := two_cells hz2
          clear hb2 hz2 r3
          dsimp only
          repeat go_step
          refine bodyPost_ret (v := .tuple #[.agg #[.slice none 0 0, .int .i64 3], .int .u64 0]) (results_row_tmp2 rfl _ _ (w.heap.size + 1) _ _ _ _ rfl HD.out Try.underlying59 rfl (Try.sizeRd _ _) _ rfl) rfl ?_
          exact ⟨_, by rw [HT.out]; rfl, by rw [HT.out]; exact BytesIn.nil _ _, HBB.out⟩
        | true =>
          have hlead : lead 0 0 bs = (N, i + 1) := by
            have hd : enc N = bs.take (i + 1) := of_decide_eq_true HPP.out
            rcases HTT.out (by omega) (by omega) with ⟨_, h1⟩ | ⟨h0, _⟩
            · exact absurd hd h1
            · exact h0
          by_cases hmo : most < N
          · have HT := Lib.hid (show numT bs 0 most = (0, [], 5) by
              unfold numT
              rw [if_neg (by simp), hlead, if_neg (by simp), if_pos hmo])
            have hmz : (most : Int) < (N : Int) := by omega
            clear hmo hlead
            go_wp2_with fail
            refine (refBad_any 5 w3).mono ?_
            rintro e w2 ⟨rfl, hb2⟩
            have hz2 := (hb2.block _ (by omega)).trans HZ3.out
            have HD := Lib.hid (two_set hz2 (.slice none 0 0) (.int .i64 5))
            have HBB := Lib.hid (below_two (HBW3.out.trans (hb2.mono HBW3.out.size)) (g := w.heap.size + 1) (by omega) (.slice none 0 0) (.int .i64 5))
            obtain ⟨z0, z1, z2, z3⟩ := two_cells hz2
            clear hb2 hz2 r3
            dsimp only
            repeat go_step
            refine bodyPost_ret (v := .tuple #[.agg #[.slice none 0 0, .int .i64 5], .int .u64 0]) (results_row_tmp2 rfl _ _ (w.heap.size + 1) _ _ _ _ rfl HD.out Try.underlying59 rfl (Try.sizeRd _ _) _ rfl) rfl ?_
            exact ⟨_, by rw [HT.out]; rfl, by rw [HT.out]; exact BytesIn.nil _ _, HBB.out⟩
          · have HT := Lib.hid (show numT bs 0 most = (N, bs.drop (i + 1), 0) by
              unfold numT
              rw [if_neg (by simp), hlead, if_neg (by simp), if_neg hmo])
            have hmz : ¬ (most : Int) < (N : Int) := by omega
            clear hmo hlead
            obtain ⟨z0, z1, z2, z3⟩ := two_cells HZ3.out
            by_cases hcz : c = i + 1
            · have hv3 := behind_end (HV.out.keep HB3.out) (k := i + 1) (by have := HNL.out; omega) hcz
              have HD := Lib.hid (two_set HZ3.out (.slice (some ⟨b, off, none⟩) (n - (i + 1)) 0) (.int .i64 0))
              have HBB := Lib.hid (below_two HBW3.out (g := w.heap.size + 1) (by omega) (.slice (some ⟨b, off, none⟩) (n - (i + 1)) 0) (.int .i64 0))
              have HV4 := Lib.hid ((HVI.out _ HBB.out).end_ (k := i + 1) (by have := HNL.out; omega) hcz)
              clear hv3
              repeat go_step
              refine bodyPost_ret (v := .tuple #[.agg #[.slice (some ⟨b, off, none⟩) (n - (i + 1)) 0, .int .i64 0], .int .u64 N]) (results_row_tmp2 rfl _ _ (w.heap.size + 1) _ _ _ _ rfl HD.out Try.underlying59 rfl (Try.sizeRd _ _) _ rfl) rfl ?_
              exact ⟨_, by rw [HT.out], by rw [HT.out]; exact HV4.out, HBB.out⟩
            · have hv3 := behind_more (HV.out.keep HB3.out) (k := i + 1) (by have := HNL.out; omega)
              rw [show Option.map (fun x => x.add (i + 1)) (some (⟨b, off, none⟩ : Addr)) = some ⟨b, off + (i + 1), none⟩ from rfl] at hv3
              have HD := Lib.hid (two_set HZ3.out (.slice (some ⟨b, off + (i + 1), none⟩) (n - (i + 1)) (c - (i + 1))) (.int .i64 0))
              have HBB := Lib.hid (below_two HBW3.out (g := w.heap.size + 1) (by omega) (.slice (some ⟨b, off + (i + 1), none⟩) (n - (i + 1)) (c - (i + 1))) (.int .i64 0))
              have HV4 := Lib.hid ((HVI.out _ HBB.out).more (k := i + 1) (by have := HNL.out; omega))
              clear hv3
              repeat go_step
              refine bodyPost_ret (v := .tuple #[.agg #[.slice (some ⟨b, off + (i + 1), none⟩) (n - (i + 1)) (c - (i + 1)), .int .i64 0], .int .u64 N]) (results_row_tmp2 rfl _ _ (w.heap.size + 1) _ _ _ _ rfl HD.out Try.underlying59 rfl (Try.sizeRd _ _) _ rfl) rfl ?_
              exact ⟨_, by rw [HT.out], by rw [HT.out]; exact HV4.out, HBB.out⟩

set_option maxRecDepth 100000 in
set_option maxHeartbeats 4000000 in
theorem refFailed_any (B : Nat) (A : Option Addr) (n c : Nat) (bs : List Nat) (ee : Int) (most : Nat) (w : World) (hB : B ≤ w.heap.size) (hvi : BytesIn B w (.slice A n c) bs) (he : ee ≠ 0) :
    Calls Try.prog 30 #[.agg #[.slice A n c, .int .i64 ee], .int .u64 most] w (RefP B (numT bs ee most) w) := by
  have hb1 : Below w.heap.size w ((w.alloc (.cells #[.slice A n c, .int .i64 ee] 59)).alloc (.cells #[.slice none 0 0, .int .i64 0] 59)) := ((Below.refl _ _).alloc (Nat.le_refl _) _).alloc (by simp) _
  have hr1 : ((w.alloc (.cells #[.slice A n c, .int .i64 ee] 59)).alloc (.cells #[.slice none 0 0, .int .i64 0] 59)).heap[w.heap.size]? = some (.cells #[.slice A n c, .int .i64 ee] 59 (0, 0)) :=
    ((Below.refl _ _).alloc (Nat.le_refl _) (.cells #[.slice none 0 0, .int .i64 0] 59)).block _ (by simp) |>.trans (World.alloc_heap_new w _)
  have hz1 : ((w.alloc (.cells #[.slice A n c, .int .i64 ee] 59)).alloc (.cells #[.slice none 0 0, .int .i64 0] 59)).heap[w.heap.size + 1]? = some (.cells #[.slice none 0 0, .int .i64 0] 59 (0, 0)) := by
    have := World.alloc_heap_new (w.alloc (.cells #[.slice A n c, .int .i64 ee] 59)) (.cells #[.slice none 0 0, .int .i64 0] 59)
    rwa [World.size_alloc] at this
  have HZ := Lib.hid hz1
  have HB := Lib.hid hb1
  have HVI := Lib.hid (fun W (h : Below w.heap.size w W) => hvi.keep (h.mono hB))
  have HT := Lib.hid (numT_bad (bs := bs) he most)
  have he' : (ee != 0) = true := by simpa using he
  clear hvi hb1 he
  go_enter Try.func30, Try.ntmps30
  go_upto_region 1 with fail
  generalize (w.alloc (.cells #[.slice A n c, .int .i64 ee] 59)).alloc (.cells #[.slice none 0 0, .int .i64 0] 59) = w1 at *
  obtain ⟨r0, r1, _, _⟩ := two_cells hr1
  obtain ⟨z0, z1, z2, z3⟩ := two_cells hz1
  have HD := Lib.hid (two_set hz1 (.slice A n c) (.int .i64 ee))
  have HBB := Lib.hid (below_two HB.out (g := w.heap.size + 1) (by omega) (.slice A n c) (.int .i64 ee))
  clear hr1 hz1
  repeat go_step
  refine bodyPost_ret (v := .tuple #[.agg #[.slice A n c, .int .i64 ee], .int .u64 0]) (results_row_tmp2 rfl _ _ (w.heap.size + 1) _ _ _ _ rfl HD.out Try.underlying59 rfl (Try.sizeRd _ _) _ rfl) rfl ?_
  exact ⟨_, by rw [HT.out]; rfl, by rw [HT.out]; exact HVI.out _ HBB.out, HBB.out⟩
end Go.Proofs.Ytaffcpjhaacadaa
