/-
  slices.Insert of one member, slices.Delete of one, slices.Clone: a row of members of the caller's own.
  Conditions: the row is of the caller's own; the one that is put lies in another block.
-/
import Derived.Test.YtpfpojehcjmfnaaGreatT20
import Derived.Test.YtpfpojehcjmfnaaGreatT05
import Derived.Laws.CopyRow
import Derived.Shelf.Spec.SlicesInsertGrow

/-
  Who has the least pass: first; the floor; where a member stands: seek.
  Conditions: the ring lies in memory; its numbers fit.
-/
set_option linter.unusedVariables false
namespace Go.Proofs.YtpfpojehcjmfnaaGreat.Rn
open Go.RowKit Go.Sort

theorem takes_some {m : Mb} {x : Nat × Mb} (ho : m.on = true) : takes m (some x) = decide (m.n * x.2.w < x.2.n * m.w) := by
  unfold takes lessM
  rw [ho]
  rfl
theorem drop_of {α : Type} {l : List α} {k : Nat} {x : α} (h : l[k]? = some x) : l.drop k = x :: l.drop (k + 1) := by
  obtain ⟨hlt, e⟩ := List.getElem?_eq_some_iff.1 h
  rw [List.drop_eq_getElem_cons hlt, e]
/-- An operation whose guard is struck. -/
theorem struck_if {b : Bool} {p q : Prop} (hb : b = false) (h : q) : if b = true then p else q := by
  rw [hb]
  exact h
theorem best_go {l : List Mb} {k : Nat} {m : Mb} (hm : l[k]? = some m) {b r : Option (Nat × Mb)} (h : bestGo (l.drop k) k b = r) : bestGo (l.drop (k + 1)) (k + 1) (if takes m b = true then some (k, m) else b) = r := by
  rw [drop_of hm] at h
  exact h
theorem grew_on {B : Nat} {w w1 : World} (h : Below B w w1) (hB : B < w1.heap.size) (n : Nat) (os : Array Obj) : Below B w (grow (w1.drewN n) os) :=
  (below_drewN h n).trans ((grow_below (w1.drewN n) os).mono (show B ≤ w1.heap.size from Nat.le_of_lt hB))

set_option maxRecDepth 100000 in
set_option maxHeartbeats 1000000 in
theorem first_any (W : World) (rb : Nat) (mv : Value) (s : Rg) (C : Nat) (h : RingAt W rb mv s) (hf : Fit C s) (hlim : 0 < s.lim) (hl : C ≤ 1099511627777) :
    Calls Tryz.prog 74 #[.pointer (some ⟨rb, 0, none⟩)] W (RetB (.int .i64 (idxI (best s.l))) W) := by
  have HMADE := Lib.hid (fun W h => isMade_any W rb mv s h hlim)
  have HR := Lib.hid h
  have HF := Lib.hid hf
  have HLIM := Lib.hid hl
  have hlen := hf.len
  obtain ⟨_, c1, _⟩ := h.heads
  have hrl := h.lt
  obtain ⟨A, c, rfl⟩ := h.form
  generalize hn : s.l.length = n at *
  have HN := Lib.hid hn
  clear h hf hl hn hlim
  have mixed : Tryz.prog.follows .mixedOrders = true := by kernel_rfl
  go_enter Tryz.func74, Tryz.ntmps74
  go_wp2_with fail
  refine (HMADE.out _ HR.out).mono ?_
  rintro e w' ⟨rfl, rfl⟩
  go_wp2_with fail
  go_loopg [3, 14] n (fun gg s3 s14 wr => ∃ (k : Nat) (b : Option (Nat × Mb)), k ≤ n ∧ gg = n - k ∧ s14 = .int .i64 k ∧ s3 = .int .i64 (idxI b) ∧ Below W.heap.size W wr ∧ bestGo (s.l.drop k) k b = best s.l ∧ ∀ x, b = some x → s.l[x.1]? = some x.2)
  case atStart => exact ⟨0, none, Nat.zero_le _, by omega, rfl, rfl, Below.refl _ W, rfl, fun x hx => by cases hx⟩
  case round =>
    obtain ⟨k, b, hk, hg, rfl, rfl, hbw, hbest, hbx⟩ := hrel
    have HB := Lib.hid hbw
    have HBEST := Lib.hid hbest
    have HBX := Lib.hid hbx
    have HG := Lib.hid hg
    clear hbest hbx hg
    by_cases hlt : k < n
    · have hltz : (k : Int) < (n : Int) := by omega
      obtain ⟨m, hm⟩ := ex_at (xs := s.l) (k := k) (by rw [HN.out]; exact hlt)
      obtain ⟨g, cap, hA, hgl, _, _, _, hat, _⟩ := HR.out.at_ hm
      have e1 : A = some ⟨g, 0, none⟩ := by injection hA
      clear hA
      subst e1
      have HGL := Lib.hid hgl
      have hgl2 : g < wr.heap.size := Nat.lt_of_lt_of_le hgl hbw.size
      have hrl2 : rb < wr.heap.size := Nat.lt_of_lt_of_le hrl hbw.size
      obtain ⟨m0, m1, m2, m3⟩ := hat.keep (hbw.block g hgl)
      have c1' := (hbw.cell (p := ⟨rb, 1, none⟩) hrl).trans c1
      obtain ⟨f1, f2, f3, f4, f5⟩ := HF.out.mem m (List.mem_of_getElem? hm)
      have f6 : m.n < 18446744073709551616 := by have := HLIM.out; have : C * m.w ≤ 1099511627777 * 1000 := Nat.mul_le_mul this f4; omega
      have HP := Lib.hid (fun W => pass_any m f4 W)
      have HROUND : Hid (∀ w2, Below wr.heap.size wr w2 → Below W.heap.size W w2) := fun w2 h2 => HB.out.trans (h2.mono HB.out.size)
      have HW1 : Hid (∀ P, wr.heap.size = P → ∀ w1, w1 = wr.alloc (.cells #[.int .i64 m.id, .int .i64 m.w, .bool m.on, .int .u64 m.n] 124) → P < w1.heap.size ∧ Below wr.heap.size wr w1 ∧ w1.cell? ⟨P, 0, none⟩ = some (.int .i64 m.id) ∧ w1.cell? ⟨P, 1, none⟩ = some (.int .i64 m.w) ∧ w1.cell? ⟨P, 2, none⟩ = some (.bool m.on) ∧ w1.cell? ⟨P, 3, none⟩ = some (.int .u64 m.n)) := by
        rintro P rfl w1 rfl
        exact ⟨by simp, (Below.refl _ wr).alloc (Nat.le_refl _) _, World.cell?_alloc_new (w := wr) _ _ 0, World.cell?_alloc_new (w := wr) _ _ 1, World.cell?_alloc_new (w := wr) _ _ 2, World.cell?_alloc_new (w := wr) _ _ 3⟩
      have HGO := Lib.hid (best_go hm HBEST.out)
      have HM := Lib.hid hm
      cases ho : m.on with
      | false =>
        have ht : ¬ takes m b = true := by unfold takes; rw [ho]; simp
        rw [if_neg ht] at HGO
        rw [ho] at m2
        clear hat hbw hm f1 f2 f3 f4 f5 f6 HP ht
        obtain ⟨m1', m2', m3', m4'⟩ := m
        simp only at m0 m1 m3 ho HW1
        subst ho
        obtain ⟨bi, hbi⟩ : ∃ bi, idxI b = bi := ⟨_, rfl⟩
        rw [hbi]
        have HBI := Lib.hid hbi
        clear hbi
        go_upto_region 7 with fail
        obtain ⟨h1, h2, q0, q1, q2, q3⟩ := HW1.out _ rfl _ rfl
        have HB2 := Lib.hid h2
        generalize hw1 : wr.alloc (Obj.cells #[Value.int .i64 m1', Value.int .i64 m2', .bool false, .int .u64 m3'] 124) = w1 at *
        generalize hP : wr.heap.size = P at *
        have g2 := cell_grown h1 q2
        clear hw1 q0 q1 q2 q3 h2
        refine wp_region_quiet_grown mixed (by kernel_rfl) ?_
        with_reducible refine wpQuiet_step (fun K hK => ?_); go_simp; with_reducible refine hK _ ?_; clear hK K
        with_reducible refine wpQuiet_step (fun K hK => ?_); go_simp; with_reducible refine hK _ ?_; clear hK K
        with_reducible refine wpQuiet_step (fun K hK => ?_); go_simp; with_reducible refine hK _ ?_; clear hK K
        with_reducible refine wpQuiet_step (fun K hK => ?_); go_simp; with_reducible refine hK _ ?_; clear hK K
        with_reducible refine wpQuiet_step (fun K hK => ?_); with_reducible refine struck_if (by kernel_rfl) ?_; go_simp; with_reducible refine hK _ ?_; clear hK K
        with_reducible refine wpQuiet_step (fun K hK => ?_); with_reducible refine struck_if (by kernel_rfl) ?_; go_simp; with_reducible refine hK _ ?_; clear hK K
        with_reducible refine wpQuiet_step (fun K hK => ?_); with_reducible refine struck_if (by kernel_rfl) ?_; go_simp; with_reducible refine hK _ ?_; clear hK K
        with_reducible refine wpQuiet_step (fun K hK => ?_); with_reducible refine struck_if (by kernel_rfl) ?_; go_simp; with_reducible refine hK _ ?_; clear hK K
        with_reducible refine wpQuiet_step (fun K hK => ?_); with_reducible refine struck_if (by kernel_rfl) ?_; go_simp; with_reducible refine hK _ ?_; clear hK K
        with_reducible refine wpQuiet_step (fun K hK => ?_); with_reducible refine struck_if (by kernel_rfl) ?_; go_simp; with_reducible refine hK _ ?_; clear hK K
        with_reducible refine wpQuiet_step (fun K hK => ?_); with_reducible refine struck_if (by kernel_rfl) ?_; go_simp; with_reducible refine hK _ ?_; clear hK K
        with_reducible refine wpQuiet_step (fun K hK => ?_); with_reducible refine struck_if (by kernel_rfl) ?_; go_simp; with_reducible refine hK _ ?_; clear hK K
        with_reducible refine wpQuiet_step (fun K hK => ?_); with_reducible refine struck_if (by kernel_rfl) ?_; go_simp; with_reducible refine hK _ ?_; clear hK K
        with_reducible refine wpQuiet_step (fun K hK => ?_); with_reducible refine struck_if (by kernel_rfl) ?_; go_simp; with_reducible refine hK _ ?_; clear hK K
        with_reducible refine wpQuiet_step (fun K hK => ?_); with_reducible refine struck_if (by kernel_rfl) ?_; go_simp; with_reducible refine hK _ ?_; clear hK K
        with_reducible refine wpQuiet_step (fun K hK => ?_); with_reducible refine struck_if (by kernel_rfl) ?_; go_simp; with_reducible refine hK _ ?_; clear hK K
        with_reducible refine wpQuiet_step (fun K hK => ?_); with_reducible refine struck_if (by kernel_rfl) ?_; go_simp; with_reducible refine hK _ ?_; clear hK K
        with_reducible refine wpQuiet_step (fun K hK => ?_); with_reducible refine struck_if (by kernel_rfl) ?_; go_simp; with_reducible refine hK _ ?_; clear hK K
        with_reducible refine wpQuiet_step (fun K hK => ?_); with_reducible refine struck_if (by kernel_rfl) ?_; go_simp; with_reducible refine hK _ ?_; clear hK K
        with_reducible refine wpQuiet_step (fun K hK => ?_); go_simp; with_reducible refine hK _ ?_; clear hK K
        refine wpQuiet_nil ?_
        rintro _ ⟨⟨nq, osq⟩, rfl⟩
        go_wp2
        go_roundg (n - (k + 1))
        case measure => have := HG.out; omega
        case rel => exact ⟨k + 1, b, by omega, rfl, by go_num, (by rw [HBI.out]), HROUND.out _ (grew_on HB2.out h1 nq osq), HGO.out, HBX.out⟩
      | true =>
        rw [ho] at m2
        cases b with
        | none =>
          have ht : takes m none = true := by unfold takes; rw [ho]; rfl
          rw [if_pos ht] at HGO
          clear hat hbw hm f1 f2 f3 f4 f5 f6 HP ht
          obtain ⟨m1', m2', m3', m4'⟩ := m
          simp only at m0 m1 m3 ho HW1
          subst ho
          have hbi : idxI none = -1 := rfl
          rw [hbi]
          clear hbi
          go_upto_region 7 with fail
          obtain ⟨h1, h2, q0, q1, q2, q3⟩ := HW1.out _ rfl _ rfl
          have HB2 := Lib.hid h2
          generalize hw1 : wr.alloc (Obj.cells #[Value.int .i64 m1', Value.int .i64 m2', .bool true, .int .u64 m3'] 124) = w1 at *
          generalize hP : wr.heap.size = P at *
          have g2 := cell_grown h1 q2
          clear hw1 q0 q1 q2 q3 h2
          refine wp_region_quiet_grown mixed (by kernel_rfl) ?_
          with_reducible refine wpQuiet_step (fun K hK => ?_); go_simp; with_reducible refine hK _ ?_; clear hK K
          with_reducible refine wpQuiet_step (fun K hK => ?_); go_simp; with_reducible refine hK _ ?_; clear hK K
          with_reducible refine wpQuiet_step (fun K hK => ?_); go_simp; with_reducible refine hK _ ?_; clear hK K
          with_reducible refine wpQuiet_step (fun K hK => ?_); go_simp; with_reducible refine hK _ ?_; clear hK K
          with_reducible refine wpQuiet_step (fun K hK => ?_); go_simp; with_reducible refine hK _ ?_; clear hK K
          with_reducible refine wpQuiet_step (fun K hK => ?_); go_simp; with_reducible refine hK _ ?_; clear hK K
          with_reducible refine wpQuiet_step (fun K hK => ?_); go_simp; with_reducible refine hK _ ?_; clear hK K
          with_reducible refine wpQuiet_step (fun K hK => ?_); with_reducible refine struck_if (by kernel_rfl) ?_; go_simp; with_reducible refine hK _ ?_; clear hK K
          with_reducible refine wpQuiet_step (fun K hK => ?_); with_reducible refine struck_if (by kernel_rfl) ?_; go_simp; with_reducible refine hK _ ?_; clear hK K
          with_reducible refine wpQuiet_step (fun K hK => ?_); with_reducible refine struck_if (by kernel_rfl) ?_; go_simp; with_reducible refine hK _ ?_; clear hK K
          with_reducible refine wpQuiet_step (fun K hK => ?_); with_reducible refine struck_if (by kernel_rfl) ?_; go_simp; with_reducible refine hK _ ?_; clear hK K
          with_reducible refine wpQuiet_step (fun K hK => ?_); with_reducible refine struck_if (by kernel_rfl) ?_; go_simp; with_reducible refine hK _ ?_; clear hK K
          with_reducible refine wpQuiet_step (fun K hK => ?_); with_reducible refine struck_if (by kernel_rfl) ?_; go_simp; with_reducible refine hK _ ?_; clear hK K
          with_reducible refine wpQuiet_step (fun K hK => ?_); with_reducible refine struck_if (by kernel_rfl) ?_; go_simp; with_reducible refine hK _ ?_; clear hK K
          with_reducible refine wpQuiet_step (fun K hK => ?_); with_reducible refine struck_if (by kernel_rfl) ?_; go_simp; with_reducible refine hK _ ?_; clear hK K
          with_reducible refine wpQuiet_step (fun K hK => ?_); with_reducible refine struck_if (by kernel_rfl) ?_; go_simp; with_reducible refine hK _ ?_; clear hK K
          with_reducible refine wpQuiet_step (fun K hK => ?_); with_reducible refine struck_if (by kernel_rfl) ?_; go_simp; with_reducible refine hK _ ?_; clear hK K
          with_reducible refine wpQuiet_step (fun K hK => ?_); with_reducible refine struck_if (by kernel_rfl) ?_; go_simp; with_reducible refine hK _ ?_; clear hK K
          with_reducible refine wpQuiet_step (fun K hK => ?_); go_simp; with_reducible refine hK _ ?_; clear hK K
          with_reducible refine wpQuiet_step (fun K hK => ?_); go_simp; with_reducible refine hK _ ?_; clear hK K
          refine wpQuiet_nil ?_
          rintro _ ⟨⟨nq, osq⟩, rfl⟩
          go_wp2
          go_roundg (n - (k + 1))
          case measure => have := HG.out; omega
          case rel => exact ⟨k + 1, some (k, ⟨m1', m2', m3', true⟩), by omega, rfl, by go_num, rfl, HROUND.out _ (grew_on HB2.out h1 nq osq), HGO.out, fun x hx => by injection hx with hx; subst hx; exact HM.out⟩
        | some x =>
          obtain ⟨j, x⟩ := x
          have hx : s.l[j]? = some x := HBX.out _ rfl
          have hjn : j < n := by have := (List.getElem?_eq_some_iff.1 hx).1; have := HN.out; omega
          have hjz : (j : Int) < (n : Int) := by omega
          obtain ⟨k1, k2, k3, k4, k5⟩ := HF.out.mem x (List.mem_of_getElem? hx)
          have k6 : x.n < 18446744073709551616 := by have := HLIM.out; have : C * x.w ≤ 1099511627777 * 1000 := Nat.mul_le_mul this k4; omega
          obtain ⟨g', cap', hA', _, _, _, _, hat', _⟩ := HR.out.at_ hx
          have e2 : g' = g := by injection hA' with hA' _ _; injection hA' with hA'; injection hA' with hA' _; exact hA'.symm
          clear hA'
          subst e2
          obtain ⟨x0, x1, x2, x3⟩ := hat'.keep (hbw.block g' hgl)
          have HPX := Lib.hid (fun W => pass_any x k4 W)
          obtain ⟨dd, hdd⟩ : ∃ dd, decide (m.n * x.w < x.n * m.w) = dd := ⟨_, rfl⟩
          have HL : Hid (∀ W, Calls Tryz.prog 120 #[passA m.n m.w, passA x.n x.w] W (RetG (.bool dd) W)) := fun W => by
            rw [← hdd]
            exact less_any m.n m.w x.n x.w f6 (by omega) k6 (by omega) (by simp; omega) (by simp; omega) W
          rw [takes_some ho, show decide (m.n * (j, x).2.w < (j, x).2.n * m.w) = dd from hdd] at HGO
          have hbi : idxI (some (j, x)) = (j : Int) := rfl
          rw [hbi]
          unfold mbA passA at HP HPX HL
          clear hat hbw hm f1 f2 f3 f4 f5 f6 hbi hat' k1 k2 k3 k4 k5 k6 hdd hx
          obtain ⟨m1', m2', m3', m4'⟩ := m
          obtain ⟨y1', y2', y3', y4'⟩ := x
          simp only at m0 m1 m3 ho HW1 HP HPX HL x0 x1 x2 x3
          subst ho
          go_upto_region 7 with fail
          obtain ⟨h1, h2, q0, q1, q2, q3⟩ := HW1.out _ rfl _ rfl
          have HB2 := Lib.hid h2
          generalize hw1 : wr.alloc (Obj.cells #[Value.int .i64 m1', Value.int .i64 m2', .bool true, .int .u64 m3'] 124) = w1 at *
          generalize hP : wr.heap.size = P at *
          have a0 := cell_grown h1 q0
          have a1 := cell_grown h1 q1
          have a2 := cell_grown h1 q2
          have a3 := cell_grown h1 q3
          have b0 := cell_grown (w := w1) (by show g' < _; omega) ((h2.cell (p := ⟨g', j * 4, none⟩) hgl2).trans x0)
          have b1 := cell_grown (w := w1) (by show g' < _; omega) ((h2.cell (p := ⟨g', j * 4 + 1, none⟩) hgl2).trans x1)
          have b2 := cell_grown (w := w1) (by show g' < _; omega) ((h2.cell (p := ⟨g', j * 4 + 2, none⟩) hgl2).trans x2)
          have b3 := cell_grown (w := w1) (by show g' < _; omega) ((h2.cell (p := ⟨g', j * 4 + 3, none⟩) hgl2).trans x3)
          have r1 := cell_grown (w := w1) (by show rb < _; omega) ((h2.cell (p := ⟨rb, 1, none⟩) hrl2).trans c1')
          clear hw1 q0 q1 q2 q3 h2 m0 m1 m2 m3 x0 x1 x2 x3 c1' c1
          have hjz2 : decide ((j : Int) < 0) = false := decide_eq_false (by omega)
          refine wp_region_quiet_grown mixed (by kernel_rfl) ?_
          with_reducible refine wpQuiet_step (fun K hK => ?_); go_simp; with_reducible refine hK _ ?_; clear hK K
          with_reducible refine wpQuiet_step (fun K hK => ?_); go_simp; with_reducible refine hK _ ?_; clear hK K
          with_reducible refine wpQuiet_step (fun K hK => ?_); go_simp; with_reducible refine hK _ ?_; clear hK K
          with_reducible refine wpQuiet_step (fun K hK => ?_); go_simp; with_reducible refine hK _ ?_; clear hK K
          with_reducible refine wpQuiet_step (fun K hK => ?_); go_simp; with_reducible refine hK _ ?_; clear hK K
          with_reducible refine wpQuiet_step (fun K hK => ?_); go_simp; with_reducible refine hK _ ?_; clear hK K
          with_reducible refine wpQuiet_step (fun K hK => ?_); go_simp; with_reducible refine hK _ ?_; clear hK K
          with_reducible refine wpQuiet_step (fun K hK => ?_); go_simp; with_reducible refine hK _ ?_; clear hK K
          quiet_step (first | (go_at_call 115; refine grown_met (HP.out _)))
          with_reducible refine wpQuiet_step (fun K hK => ?_); go_simp; with_reducible refine hK _ ?_; clear hK K
          with_reducible refine wpQuiet_step (fun K hK => ?_); go_simp; with_reducible refine hK _ ?_; clear hK K
          with_reducible refine wpQuiet_step (fun K hK => ?_); go_simp; with_reducible refine hK _ ?_; clear hK K
          with_reducible refine wpQuiet_step (fun K hK => ?_); go_simp; with_reducible refine hK _ ?_; clear hK K
          with_reducible refine wpQuiet_step (fun K hK => ?_); go_simp; with_reducible refine hK _ ?_; clear hK K
          with_reducible refine wpQuiet_step (fun K hK => ?_); go_simp; with_reducible refine hK _ ?_; clear hK K
          with_reducible refine wpQuiet_step (fun K hK => ?_); go_simp; with_reducible refine hK _ ?_; clear hK K
          quiet_step (first | (go_at_call 115; refine grown_met (HPX.out _)))
          quiet_step (first | (go_at_call 120; refine grown_met (HL.out _)))
          with_reducible refine wpQuiet_step (fun K hK => ?_); go_simp; with_reducible refine hK _ ?_; clear hK K
          with_reducible refine wpQuiet_step (fun K hK => ?_); go_simp; with_reducible refine hK _ ?_; clear hK K
          refine wpQuiet_nil ?_
          rintro _ ⟨⟨nq, osq⟩, rfl⟩
          cases dd with
          | true =>
            rw [if_pos rfl] at HGO
            go_wp2
            go_roundg (n - (k + 1))
            case measure => have := HG.out; omega
            case rel => exact ⟨k + 1, some (k, ⟨m1', m2', m3', true⟩), by omega, rfl, by go_num, rfl, HROUND.out _ (grew_on HB2.out h1 nq osq), HGO.out, fun x hx => by injection hx with hx; subst hx; exact HM.out⟩
          | false =>
            rw [if_neg (by decide)] at HGO
            go_wp2
            go_roundg (n - (k + 1))
            case measure => have := HG.out; omega
            case rel => exact ⟨k + 1, some (j, ⟨y1', y2', y3', y4'⟩), by omega, rfl, by go_num, rfl, HROUND.out _ (grew_on HB2.out h1 nq osq), HGO.out, HBX.out⟩
    · have hltz : ¬ (k : Int) < (n : Int) := by omega
      have hfin : b = best s.l := by
        have := HBEST.out
        rwa [List.drop_of_length_le (by have := HN.out; omega)] at this
      have hbi : idxI b = idxI (best s.l) := by rw [hfin]
      generalize idxI b = bi at *
      have HBI := Lib.hid hbi
      clear hfin hbi
      go_wp2
      go_ret
      exact ⟨by rw [← HBI.out]; rfl, HB.out⟩
end Go.Proofs.YtpfpojehcjmfnaaGreat.Rn

/-
  The floor; where a member stands: seek.
  Conditions: the ring lies in memory; its numbers fit.
-/
set_option linter.unusedVariables false
namespace Go.Proofs.YtpfpojehcjmfnaaGreat.Rn
open Go.RowKit Go.Sort

theorem keep_block {w w' : World} {N : Nat} {o : Obj} (h : w.heap[N]? = some o) (hb : Below w.heap.size w w') : w'.heap[N]? = some o := (hb.block N (heap_lt h)).trans h
theorem two_heads {w : World} {N : Nat} {a b : Value} {T : TypeId} (h : w.heap[N]? = some (.cells #[a, b] T (0, 0))) :
    w.cell? ⟨N, 0, none⟩ = some a ∧ w.cell? ⟨N, 1, none⟩ = some b ∧ w.frozen? ⟨N, 0, none⟩ = false ∧ w.frozen? ⟨N, 1, none⟩ = false := by
  refine ⟨?_, ?_, ?_, ?_⟩ <;> simp [World.cell?, World.frozen?, h]
theorem two_set {w : World} {g : Nat} {a b : Value} {t : TypeId} (h : w.heap[g]? = some (.cells #[a, b] t (0, 0))) (c d : Value) :
    ((w.setCell ⟨g, 0, none⟩ c).setCell ⟨g, 1, none⟩ d).heap[g]? = some (.cells #[c, d] t (0, 0)) :=
  heap_setCell_mem _ _ _ _ _ _ _ (heap_setCell_mem _ _ _ _ _ _ _ h)
theorem alloc_block (w : World) (o : Obj) {N : Nat} (hN : w.heap.size = N) : (w.alloc o).heap[N]? = some o := by subst hN; exact heap_alloc_new w o
theorem below_two {B N : Nat} {a w : World} (h : Below B a w) (hN : B ≤ N) (c d : Value) : Below B a ((w.setCell ⟨N, 0, none⟩ c).setCell ⟨N, 1, none⟩ d) :=
  (h.setCell (p := ⟨N, 0, none⟩) hN c).setCell (p := ⟨N, 1, none⟩) hN d

set_option maxHeartbeats 1000000 in
theorem floor_any (W : World) (rb : Nat) (mv : Value) (s : Rg) (C : Nat) (h : RingAt W rb mv s) (hf : Fit C s) (hlim : 0 < s.lim) (hl : C ≤ 1099511627777) :
    Calls Tryz.prog 70 #[.pointer (some ⟨rb, 0, none⟩)] W (RetB (passA (floorN s).1 (floorN s).2) W) := by
  have HFIRST := Lib.hid (fun W h => first_any W rb mv s C h hf hlim hl)
  have HR := Lib.hid h
  have HF := Lib.hid hf
  have hb1 := (Below.refl W.heap.size W).alloc (Nat.le_refl _) (.cells #[.int .u64 0, .int .u64 0] 112)
  have HB1 := Lib.hid hb1
  have HR1 := Lib.hid (h.below hb1)
  have HN1 := Lib.hid (alloc_block W (.cells #[.int .u64 0, .int .u64 0] 112) rfl)
  clear hb1 hf hl hlim h
  unfold passA floorN
  cases hb : best s.l with
  | none =>
    rw [hb] at HFIRST
    clear hb
    go_enter Tryz.func70, Tryz.ntmps70
    go_wp2_with fail
    generalize hw0 : W.alloc (.cells #[.int .u64 0, .int .u64 0] 112) = w0 at *
    have hs0 := HB1.out.size
    obtain ⟨N, hN⟩ : ∃ N, W.heap.size = N := ⟨_, rfl⟩
    rw [hN] at HB1 HN1 hs0 ⊢
    have HS0 := Lib.hid hs0
    clear hs0
    clear hw0
    refine (HFIRST.out w0 HR1.out).mono ?_
    rintro e w1 ⟨rfl, hb⟩
    have HB := Lib.hid hb
    have HSZ := Lib.hid hN
    obtain ⟨_, c1, c2, c3, _⟩ := (HR1.out.below hb).heads
    have HN2 := Lib.hid (keep_block HN1.out hb)
    obtain ⟨d0, d1, d2, d3⟩ := two_heads HN2.out
    clear hb hN
    have hidx : idxI none = -1 := rfl
    rw [hidx]
    clear hidx
    go_wp2
    refine bodyPost_ret (v := .agg #[.int .u64 s.num, .int .u64 s.den]) (results_cell_row rfl _ _ N _ _ _ _ rfl (two_set HN2.out _ _) Tryz.underlying112 rfl (Tryz.sizePass _ _)) rfl ?_
    refine ⟨rfl, ?_⟩
    rw [HSZ.out]
    exact below_two (HB1.out.trans (HB.out.mono HS0.out)) (Nat.le_refl _) _ _
  | some x =>
    rw [hb] at HFIRST
    obtain ⟨k, m⟩ := x
    obtain ⟨hk, hon, hmin⟩ := best_some HF.out.pos hb
    clear hon hmin
    simp only at hk
    obtain ⟨f1, f2, f3, f4, f5⟩ := HF.out.mem m (List.mem_of_getElem? hk)
    have HP := Lib.hid (fun W => pass_any m f4 W)
    have hkl := (List.getElem?_eq_some_iff.1 hk).1
    obtain ⟨n, hn⟩ : ∃ n, s.l.length = n := ⟨_, rfl⟩
    rw [hn] at hkl
    have hkz : (k : Int) < (n : Int) := by omega
    have hk0 : (0 : Int) ≤ (k : Int) := by omega
    have HK := Lib.hid hk
    have HNN := Lib.hid hn
    have hidx : idxI (some (k, m)) = (k : Int) := rfl
    rw [hidx] at HFIRST
    clear hb hidx hk f1 f2 f3 f4 f5 hn
    go_enter Tryz.func70, Tryz.ntmps70
    go_wp2_with fail
    generalize hw0 : W.alloc (.cells #[.int .u64 0, .int .u64 0] 112) = w0 at *
    have hs0 := HB1.out.size
    obtain ⟨N, hN⟩ : ∃ N, W.heap.size = N := ⟨_, rfl⟩
    rw [hN] at HB1 HN1 hs0 ⊢
    have HS0 := Lib.hid hs0
    clear hs0
    clear hw0
    refine (HFIRST.out w0 HR1.out).mono ?_
    rintro e w1 ⟨rfl, hb⟩
    have HB := Lib.hid hb
    have HSZ := Lib.hid hN
    have HR2 := Lib.hid (HR1.out.below hb)
    obtain ⟨_, c1, c2, c3, _⟩ := (HR1.out.below hb).heads
    have HN2 := Lib.hid (keep_block HN1.out hb)
    obtain ⟨g, cap, rfl, hgl, hgne, hc1, hc2, hat, _⟩ := HR2.out.at_ HK.out
    rw [HNN.out] at c1 hc1
    obtain ⟨m0, m1, m2, m3⟩ := hat
    unfold mbA passA at HP
    clear hb hN hgl hgne hc1 hc2
    obtain ⟨m1', m2', m3', m4'⟩ := m
    simp only at m0 m1 m2 m3 HP
    go_wp2_with fail
    refine (HP.out _).mono ?_
    rintro e w2 ⟨rfl, hg⟩
    have HG := Lib.hid hg.below
    have HN3 := Lib.hid (keep_block HN2.out hg.below)
    obtain ⟨d0, d1, d2, d3⟩ := two_heads HN3.out
    clear hg c1 c2 c3 m0 m1 m2 m3
    go_wp2
    refine bodyPost_ret (v := .agg #[.int .u64 m3', .int .u64 m2']) (results_cell_row rfl _ _ N _ _ _ _ rfl (two_set HN3.out _ _) Tryz.underlying112 rfl (Tryz.sizePass _ _)) rfl ?_
    refine ⟨rfl, ?_⟩
    rw [HSZ.out]
    exact below_two (HB1.out.trans ((HB.out.trans (HG.out.mono HB.out.size)).mono HS0.out)) (Nat.le_refl _) _ _

end Go.Proofs.YtpfpojehcjmfnaaGreat.Rn

/-
  slices.Insert of one member, slices.Delete of one, slices.Clone: a row of members of the caller's own.
  Conditions: the row is of the caller's own; the one that is put lies in another block.
-/
set_option linter.unusedVariables false
namespace Go.Proofs.YtpfpojehcjmfnaaGreat.Rn
open Go.RowKit Go.Proofs

/-- What a call answers that changes a row of its caller's. -/
def RetM (base e : Nat) (v : Value) (l : List Mb) (w : World) (en : Ending) (w' : World) : Prop := ∃ v', en = .returned v' ∧ w'.ownsRow base e 4 v' l.length (rowC l) ∧ Apart (fun k => v.ownBlock = some k) w w' ∧ Grew w v v'
theorem rowC_snoc (l : List Mb) (x : Mb) : rowC (l ++ [x]) = rowC l ++ mbCells x := by rw [rowC_append]; simp [rowC]
theorem mb_one (x : Mb) : ∀ u ∈ mbCells x, u.oneCell' = true := by
  intro u hu
  simp [mbCells] at hu
  rcases hu with rfl | rfl | rfl | rfl <;> rfl

/-- The row with one more. -/
theorem ins_cells (ps : List Mb) (k : Nat) (x : Mb) : rowC (ps.take k ++ [x] ++ ps.drop k) = (rowC ps).take (k * 4) ++ mbCells x ++ (rowC ps).drop (k * 4) := by
  rw [rowC_append, rowC_append, rowC_take, rowC_drop]
  simp [rowC]
theorem Tryz.sizeMb : (Tryz.prog.info? 124).map (·.size) = some 4 := by
  obtain ⟨i0, hi0, h0, h1, h2⟩ := info_parts Tryz.infoMb
  rw [hi0]; simp [h1]
theorem overlaps_no (w : World) (vb g o lb cb la ca : Nat) (cur one : Array Value) (tA tB : Nat) (hne : vb ≠ g) (hg : w.heap[g]? = some (.cells cur tA (0, 0))) (hv : w.heap[vb]? = some (.cells one tB (0, 0))) (hc : cur.size ≠ 0) :
    (callFunc 162 #[.slice (some ⟨vb, 0, none⟩) la ca, .slice (some ⟨g, o, none⟩) lb cb]).run Tryz.prog w = .ok (.value (.bool false)) w := by
  rw [run_callFunc_extern Tryz.func162 (by kernel_rfl) (by kernel_rfl) (by kernel_rfl) (e := Extern.SlicesOverlaps.overlaps #[113, 113] #[4]) (by kernel_rfl),
    Lib.run_overlaps_apart w 113 4 124 Tryz.underlying113 4 Tryz.sizeOf124 ⟨vb, 0, none⟩ ⟨g, o, none⟩ la ca lb cb hne tB tA one.size cur.size (by simp [World.shape?, hv]) (by simp [World.shape?, hg]) hc (by simp [World.frozen?, hv]) (by simp [World.frozen?, hv])]
  rfl

set_option maxRecDepth 100000 in
/-- At the end. -/
theorem insert_end (base : Nat) (v : Value) (ps : List Mb) (x : Mb) (vb : Nat) (w : World) (h : w.ownsRow base 124 4 v ps.length (rowC ps)) (hl : ps.length ≤ 1000) (hbase : base ≤ w.heap.size)
    (hv : w.heap[vb]? = some (.cells #[.int .i64 x.id, .int .i64 x.w, .bool x.on, .int .u64 x.n] 124 (0, 0))) :
    Calls Tryz.prog 119 #[v, .int .i64 ps.length, .slice (some ⟨vb, 0, none⟩) 1 1] w (RetM base 124 v (ps ++ [x]) w) := by
  obtain ⟨i0, hi, hz0, hz1, hz2⟩ := info_parts Tryz.infoMb
  have HO := Lib.hid h
  have HLEN := Lib.hid (show (ps ++ [x]).length = ps.length + 1 by simp)
  have HSN := Lib.hid (rowC_snoc ps x)
  have hnews : Hid (∀ j u, (mbCells x)[j]? = some u → w.cell? ((⟨vb, 0, none⟩ : Addr).add j) = some u) := fun j u hj => by
    rw [Addr.add_lit, Nat.zero_add, cell_of_row w vb j _ _ (0, 0) hv]
    simpa [mbCells] using hj
  obtain ⟨A, c, rfl⟩ := own_form h
  generalize hn : ps.length = n at *
  clear h hn hv
  have hz3 : (n : Int) = (n : Int) := rfl
  have hcap : Hid (n ≤ c) := by
    show n ≤ c
    rcases HO.out.2 with ⟨h1, h2⟩ | ⟨g, cap, cur, h1, _, _, h3, _⟩
    · cases h1; omega
    · cases h1; exact h3
  have hcz : (n : Int) ≤ (c : Int) := Int.ofNat_le.2 hcap.out
  have HONE := Lib.hid (mb_one x)
  have HM := Lib.hid (show n + 1 ≤ maxLen by unfold maxLen; omega)
  have HBY := Lib.hid (show (n + 1) * 32 ≤ 140737488355328 by omega)
  have HBA := Lib.hid hbase
  go_enter Tryz.func119, Tryz.ntmps119
  go_wp2_with (at_builtin; refine wpList_append_own_at _ rfl _ _ 113 rfl base 124 i0 (.agg #[.int .i64 0, .int .i64 0, .bool false, .int .u64 0]) 4 32 Tryz.underlying113 hi hz0 hz1 hz2 rfl (by decide) _ _ _ rfl HO.out ⟨vb, 0, none⟩ 1 1 (mbCells x) rfl rfl hnews.out HONE.out HM.out HBY.out HBA.out ?_)
  all_goals
    intro v2 w2 hown2 hgrow _ hat2
    have HA2 := Lib.hid (apart_grown0 hgrow)
    have HG2 := Lib.hid hat2
    clear hat2
    have HO2 := Lib.hid hown2
    clear hown2 hgrow
    go_wp2
    go_ret
    refine ⟨_, rfl, ?_, (Apart.refl _ w).trans HA2.out (fun x _ hx => (own_block_cap A n c _ _).trans hx), fun k hk => HG2.out.elim (fun e => .inl ((own_block_cap A n c _ _).trans (e.symm.trans hk))) (fun e => .inr (Nat.le_of_eq (Option.some.inj (e.symm.trans hk))))⟩
    rw [HLEN.out, HSN.out]
    exact HO2.out

set_option maxHeartbeats 4000000 in
set_option maxRecDepth 100000 in
/-- There is room: what stands from there on is moved by one. -/
theorem insert_shift (base : Nat) (g c : Nat) (cur : Array Value) (ps : List Mb) (k : Nat) (x : Mb) (vb : Nat) (w : World) (hg : w.heap[g]? = some (.cells cur 124 (0, 0))) (hbg : base ≤ g)
    (hk : k < ps.length) (hc : ps.length + 1 ≤ c) (hcm : c ≤ maxLen) (hcs : cur.size = c * 4) (ht : cur.toList.take (ps.length * 4) = rowC ps) (hl : ps.length ≤ 1000) (hbase : base ≤ w.heap.size)
    (hv : w.heap[vb]? = some (.cells #[.int .i64 x.id, .int .i64 x.w, .bool x.on, .int .u64 x.n] 124 (0, 0))) (hne : vb ≠ g) :
    Calls Tryz.prog 119 #[.slice (some ⟨g, 0, none⟩) ps.length c, .int .i64 k, .slice (some ⟨vb, 0, none⟩) 1 1] w (RetM base 124 (.slice (some ⟨g, 0, none⟩) ps.length c) (ps.take k ++ [x] ++ ps.drop k) w) := by
  have hov : ∀ lb cb, (callFunc 162 #[.slice (some ⟨vb, 0, none⟩) 1 1, .slice (some ⟨g, (k + 1) * 4, none⟩) lb cb]).run Tryz.prog w = .ok (.value (.bool false)) w := fun lb cb =>
    overlaps_no w vb g _ lb cb 1 1 cur _ _ _ hne hg hv (by omega)
  have hSl := rowC_length ps
  obtain ⟨cs1, hcs1⟩ : ∃ l, l = (rowC ps).drop (k * 4) := ⟨_, rfl⟩
  have hd : cs1.length = (ps.length - k) * 4 := by rw [hcs1, List.length_drop, hSl]; omega
  have hcl : cur.toList.length = c * 4 := by rw [Array.length_toList]; exact hcs
  obtain ⟨L1, hL1⟩ : ∃ l, l = splice cur.toList ((k + 1) * 4) cs1 := ⟨_, rfl⟩
  have hl1 : L1.length = c * 4 := by rw [hL1, splice_length (by rw [hd, hcl]; omega), hcl]
  obtain ⟨L2, hL2⟩ : ∃ l, l = splice L1 (k * 4) (mbCells x) := ⟨_, rfl⟩
  have hl2 : L2.length = c * 4 := by rw [hL2, splice_length (by simp [mbCells]; omega), hl1]
  have HFIN : Hid (L2.take ((ps.length + 1) * 4) = rowC (ps.take k ++ [x] ++ ps.drop k)) := by
    show _ = _
    rw [ins_cells, hL2, hL1, hcs1]
    exact ins_shift4 _ rfl hSl hk (by omega) ht
  have HFL : Hid ((ps.take k ++ [x] ++ ps.drop k).length = ps.length + 1) := by
    show _ = _
    simp
    omega
  have hcell : ∀ (j : Nat) (u : Value), cs1[j]? = some u → w.cell? ⟨g, k * 4 + j, none⟩ = some u := fun j u hj => by
    rw [cell_of_row w g _ _ _ (0, 0) hg, ← Array.getElem?_toList]
    rw [hcs1, List.getElem?_drop, ← ht] at hj
    by_cases h : k * 4 + j < ps.length * 4
    · rwa [List.getElem?_take_of_lt h] at hj
    · rw [List.getElem?_take_eq_none (by omega)] at hj; cases hj
  have hone : ∀ u ∈ cs1, u.oneCell' = true := fun u hu => rowC_one ps u (by rw [hcs1] at hu; exact List.mem_of_mem_drop hu)
  have hmin1 : Nat.min (ps.length + 1 - k) (ps.length + 1 - (k + 1)) = ps.length - k := by
    show min _ _ = _
    omega
  have hmin2 : Nat.min 1 (ps.length + 1 - k) = 1 := by
    show min _ _ = _
    omega
  obtain ⟨q, hq⟩ : ∃ q : Nat, ps.length - k = q := ⟨_, rfl⟩
  have hqe : ps.length + 1 - (k + 1) = ps.length - k := by omega
  have hcp1 : ∀ ty dc sc, (Builtin.copy_ #[113, 113] ty #[.slice (some ⟨g, (k + 1) * 4, none⟩) (ps.length - k) dc, .slice (some ⟨g, k * 4, none⟩) (ps.length + 1 - k) sc]).run Tryz.prog w.drew = .ok (goInt q) (w.drew.setRow g L1.toArray) := fun ty dc sc => by
    have := run_copy_k (P := Tryz.prog) w.drew 113 113 ty 124 4 g ((k + 1) * 4) (ps.length + 1 - (k + 1)) dc ⟨g, k * 4, none⟩ (ps.length + 1 - k) sc cur _ cs1 Tryz.underlying113 Tryz.sizeMb hg (by rw [hd, hmin1]) (fun j u hj => by rw [Addr.add_lit]; exact hcell j u hj) (by rw [hd, hcs]; omega) hone
    rw [hmin1, ← hL1, hqe, hq] at this
    rw [hq]
    exact this
  have hh1 : (w.drew.setRow g L1.toArray).heap[g]? = some (.cells L1.toArray 124 (0, 0)) := setRow_heap w.drew g cur _ _ _ hg
  have hv1 : (w.drew.setRow g L1.toArray).heap[vb]? = some (.cells #[.int .i64 x.id, .int .i64 x.w, .bool x.on, .int .u64 x.n] 124 (0, 0)) := (setRow_block hne).trans hv
  have hcp2 : ∀ ty dc, (Builtin.copy_ #[113, 113] ty #[.slice (some ⟨g, k * 4, none⟩) (ps.length + 1 - k) dc, .slice (some ⟨vb, 0, none⟩) 1 1]).run Tryz.prog (w.drew.setRow g L1.toArray) = .ok (goInt 1) ((w.drew.setRow g L1.toArray).setRow g L2.toArray) := fun ty dc => by
    have := run_copy_k (P := Tryz.prog) (w.drew.setRow g L1.toArray) 113 113 ty 124 4 g (k * 4) (ps.length + 1 - k) dc ⟨vb, 0, none⟩ 1 1 L1.toArray _ (mbCells x) Tryz.underlying113 Tryz.sizeMb hh1 (by rw [hmin2]; rfl)
      (fun j u hj => by rw [Addr.add_lit, Nat.zero_add, cell_of_row _ vb j _ _ (0, 0) hv1]; simpa [mbCells] using hj) (by simp [hl1, mbCells]; omega) (mb_one x)
    rw [hmin2, List.toList_toArray, ← hL2] at this
    exact this
  have HEND : Hid (RetM base 124 (.slice (some ⟨g, 0, none⟩) ps.length c) (ps.take k ++ [x] ++ ps.drop k) w (.returned (.slice (some ⟨g, 0, none⟩) (ps.length + 1) c)) ((w.drew.setRow g L1.toArray).setRow g L2.toArray)) := by
    refine ⟨_, rfl, ⟨by rw [rowC_length], .inr ⟨g, c, L2.toArray, by rw [HFL.out], hbg, setRow_heap _ g L1.toArray _ _ _ hh1, by rw [HFL.out]; exact hc, hcm, by simpa using hl2, by rw [HFL.out, List.toList_toArray]; exact HFIN.out⟩⟩,
      apart_setRow (apart_setRow (Apart.refl _ w).drew1 rfl) rfl, fun x hx => .inl hx⟩
  generalize hn : ps.length = n at *
  clear hq hqe HFIN HFL hcell hone hmin1 hmin2 hd hcl hl1 hl2 hSl hcs1 hL1 hL2 hh1 hv1 ht hn hcs hg hv
  have hz1 : ¬ ((k : Int) = (n : Int)) := by omega
  have mixed : Tryz.prog.follows .mixedOrders = true := by kernel_rfl
  have hw1 : IntKind.i64.wrap ((k : Int) + 1) = (k : Int) + 1 := by rw [IntKind.wrap_i64]; omega
  have hw2 : IntKind.i64.wrap ((n : Int) + 1) = (n : Int) + 1 := by rw [IntKind.wrap_i64]; omega
  have hcz : c ≤ 9223372036854775807 := by unfold maxLen at hcm; omega
  have hb1 : (0 : Int) ≤ (k : Int) + 1 := by omega
  have hin : k ≤ n := by omega
  have htn : ((k : Int) + 1).toNat = k + 1 := by omega
  have htn2 : ((n : Int) + 1).toNat = n + 1 := by omega
  have hb2 : ¬ (c = k + 1) := by omega
  have hb4 : ¬ (c = k) := by omega
  have hb5 : (k : Int) ≤ (n : Int) + 1 := by omega
  go_enter Tryz.func119, Tryz.ntmps119
  go_wp2_with (simp only [hov])
  go_region_law_o (refine step_copy_runI rfl _ _ 113 113 rfl _ _ (by simp [Act.eval, Act.put]) (by simp [Act.eval, Act.put]) (hcp1 _ _ _) ?_)
  go_wp2_with (at_builtin; refine wpList_copy_runI _ rfl _ _ 113 113 rfl _ _ rfl rfl (hcp2 _ _) ?_)
  go_ret
  exact HEND.out

theorem zeroCells_length (n : Nat) : (Builtin.zeroCells #[.int .i64 0, .int .i64 0, .bool false, .int .u64 0] n).size = n * 4 := by simp [Builtin.zeroCells]

set_option maxHeartbeats 4000000 in
set_option maxRecDepth 100000 in
/-- There is no room: a new row. -/
theorem insert_grow (base : Nat) (g c : Nat) (ps : List Mb) (k : Nat) (x : Mb) (vb : Nat) (w : World) (hat : ∀ j u, (rowC ps)[j]? = some u → w.cell? ⟨g, j, none⟩ = some u)
    (hk : k < ps.length) (hn : ps.length ≤ c) (hc : c < ps.length + 1) (hl : ps.length ≤ 1000) (hbase : base ≤ w.heap.size) (hgl : g < w.heap.size)
    (hv : w.heap[vb]? = some (.cells #[.int .i64 x.id, .int .i64 x.w, .bool x.on, .int .u64 x.n] 124 (0, 0))) :
    Calls Tryz.prog 119 #[.slice (some ⟨g, 0, none⟩) ps.length c, .int .i64 k, .slice (some ⟨vb, 0, none⟩) 1 1] w (RetM base 124 (.slice (some ⟨g, 0, none⟩) ps.length c) (ps.take k ++ [x] ++ ps.drop k) w) := by
  obtain ⟨i0, hi, hz0, hz1, hz2⟩ := info_parts Tryz.infoMb
  have hSl := rowC_length ps
  have hvl : vb < w.heap.size := by
    rcases Nat.lt_or_ge vb w.heap.size with h | h
    · exact h
    · rw [Array.getElem?_eq_none h] at hv; cases hv
  obtain ⟨cs1, hcs1⟩ : ∃ l, l = (rowC ps).drop (k * 4) := ⟨_, rfl⟩
  have hd : cs1.length = (ps.length - k) * 4 := by rw [hcs1, List.length_drop, hSl]; omega
  have hold : (Builtin.firstCells i0.size k (.slice (some ⟨g, 0, none⟩) k c)).run Tryz.prog w.drew = .ok ((rowC ps).take (k * 4)).toArray w.drew := by
    rw [hz1]
    exact run_firstCells_some (w := w.drew) 4 k ⟨g, 0, none⟩ k c _ (by rw [List.length_take, hSl]; omega) (fun j u hj => by
      rw [Addr.add_lit, Nat.zero_add]
      rw [List.getElem?_take] at hj
      split at hj
      · exact hat j u hj
      · cases hj)
  obtain ⟨G, hG⟩ : ∃ G, G = grownCap w (ps.length + 1) c 124 := ⟨_, rfl⟩
  have hGn : ps.length + 1 ≤ G := by rw [hG]; exact grownCap_ge w _ _ _
  have hGm : G ≤ maxLen := by rw [hG]; exact grownCap_le_maxLen w (ps.length + 1) c 124 (by unfold maxLen; omega)
  obtain ⟨ROW, hROW⟩ : ∃ ROW : Array Value, ROW = ((rowC ps).take (k * 4)).toArray ++ Builtin.zeroCells (Value.agg #[.int .i64 0, .int .i64 0, .bool false, .int .u64 0]).cells (ps.length + 1 - k) ++ Builtin.zeroCells (Value.agg #[.int .i64 0, .int .i64 0, .bool false, .int .u64 0]).cells (G - (ps.length + 1)) := ⟨_, rfl⟩
  have hRs : ROW.size = G * 4 := by
    rw [hROW, Array.size_append, Array.size_append]
    show _ + (Builtin.zeroCells #[.int .i64 0, .int .i64 0, .bool false, .int .u64 0] _).size + (Builtin.zeroCells #[.int .i64 0, .int .i64 0, .bool false, .int .u64 0] _).size = _
    rw [zeroCells_length, zeroCells_length, List.size_toArray, List.length_take, hSl]
    omega
  have hRt : ROW.toList.take (k * 4) = (rowC ps).take (k * 4) := by
    rw [hROW, Array.toList_append, Array.toList_append, List.append_assoc, List.take_append_of_le_length (by simp [hSl]; omega), List.toList_toArray, List.take_take, Nat.min_self]
  have hrz : ∀ ty, (Builtin.append_ #[113, 3] ty #[.slice (some ⟨g, 0, none⟩) k c, .int .i64 ((ps.length : Int) + 1 - (k : Int))]).run Tryz.prog w =
      .ok (.slice (some ⟨w.heap.size, 0, none⟩) (ps.length + 1) G) (w.drew.alloc (.cells ROW 124)) := fun ty => by
    have h := Lib.run_append_grow_zeros w 113 3 ty 124 i0 _ .i64 .i64 Tryz.underlying113 Tryz.underlying3 hi hz0 (some ⟨g, 0, none⟩) k c ((rowC ps).take (k * 4)) hold (ps.length + 1 - k) (by omega) (by omega) (by omega) (by omega) (by rw [hz2]; omega) (by
      rw [hz2, show k + (ps.length + 1 - k) = ps.length + 1 by omega]; exact growslice_fits (by omega) (by omega))
    rw [show k + (ps.length + 1 - k) = ps.length + 1 by omega, ← hG, ← hROW] at h
    rw [show (ps.length : Int) + 1 - (k : Int) = ((ps.length + 1 - k : Nat) : Int) by omega]
    exact h
  obtain ⟨N, hN⟩ : ∃ N, N = w.heap.size := ⟨_, rfl⟩
  obtain ⟨L1, hL1⟩ : ∃ l, l = splice ROW.toList (k * 4) (mbCells x) := ⟨_, rfl⟩
  have hRl : ROW.toList.length = G * 4 := by rw [Array.length_toList]; exact hRs
  have hl1 : L1.length = G * 4 := by rw [hL1, splice_length (by simp [mbCells]; omega), hRl]
  obtain ⟨L2, hL2⟩ : ∃ l, l = splice L1 ((k + 1) * 4) cs1 := ⟨_, rfl⟩
  have hl2 : L2.length = G * 4 := by rw [hL2, splice_length (by rw [hd, hl1]; omega), hl1]
  have HFIN : Hid (L2.take ((ps.length + 1) * 4) = rowC (ps.take k ++ [x] ++ ps.drop k)) := by
    show _ = _
    rw [ins_cells, hL2, hL1, hcs1]
    exact ins_grow _ rfl hSl hk (by omega) hRt
  have HFL : Hid ((ps.take k ++ [x] ++ ps.drop k).length = ps.length + 1) := by
    show _ = _
    simp
    omega
  have hone : ∀ u ∈ cs1, u.oneCell' = true := fun u hu => rowC_one ps u (by rw [hcs1] at hu; exact List.mem_of_mem_drop hu)
  obtain ⟨W1, hW1⟩ : ∃ W1, W1 = w.drew.alloc (.cells ROW 124) := ⟨_, rfl⟩
  have hh0 : W1.heap[N]? = some (.cells ROW 124 (0, 0)) := by rw [hW1, hN]; exact heap_alloc_new w.drew _
  have hv0 : W1.heap[vb]? = some (.cells #[.int .i64 x.id, .int .i64 x.w, .bool x.on, .int .u64 x.n] 124 (0, 0)) := by
    rw [hW1]
    exact (((Below.refl w.drew.heap.size w.drew).alloc (Nat.le_refl _) (.cells ROW 124)).block vb hvl).trans hv
  have hb0 : Below w.heap.size w W1 := by rw [hW1]; exact (Below.refl w.heap.size w).drew.alloc (Nat.le_refl _) _
  have hmin1 : Nat.min 1 (ps.length + 1 - k) = 1 := by
    show min _ _ = _
    omega
  have hmin2 : Nat.min (ps.length - k) (ps.length + 1 - (k + 1)) = ps.length - k := by
    show min _ _ = _
    omega
  have hqe : ps.length + 1 - (k + 1) = ps.length - k := by omega
  obtain ⟨q, hq⟩ : ∃ q : Nat, ps.length - k = q := ⟨_, rfl⟩
  have hcpA : ∀ ty dc, (Builtin.copy_ #[113, 113] ty #[.slice (some ⟨N, k * 4, none⟩) (ps.length + 1 - k) dc, .slice (some ⟨vb, 0, none⟩) 1 1]).run Tryz.prog W1 = .ok (goInt 1) (W1.setRow N L1.toArray) := fun ty dc => by
    have := run_copy_k (P := Tryz.prog) W1 113 113 ty 124 4 N (k * 4) (ps.length + 1 - k) dc ⟨vb, 0, none⟩ 1 1 ROW _ (mbCells x) Tryz.underlying113 Tryz.sizeMb hh0 (by rw [hmin1]; rfl)
      (fun j u hj => by rw [Addr.add_lit, Nat.zero_add, cell_of_row _ vb j _ _ (0, 0) hv0]; simpa [mbCells] using hj) (by simp [hRs, mbCells]; omega) (mb_one x)
    rw [hmin1, ← hL1] at this
    exact this
  have hh1 : (W1.setRow N L1.toArray).heap[N]? = some (.cells L1.toArray 124 (0, 0)) := setRow_heap W1 N ROW _ _ _ hh0
  have hb1 : Below w.heap.size w (W1.setRow N L1.toArray) := below_setRow hb0 (by omega)
  have hcpB : ∀ ty dc sc, (Builtin.copy_ #[113, 113] ty #[.slice (some ⟨N, (k + 1) * 4, none⟩) (ps.length - k) dc, .slice (some ⟨g, k * 4, none⟩) (ps.length - k) sc]).run Tryz.prog (W1.setRow N L1.toArray).drew = .ok (goInt q) ((W1.setRow N L1.toArray).drew.setRow N L2.toArray) := fun ty dc sc => by
    have := run_copy_k (P := Tryz.prog) (W1.setRow N L1.toArray).drew 113 113 ty 124 4 N ((k + 1) * 4) (ps.length + 1 - (k + 1)) dc ⟨g, k * 4, none⟩ (ps.length - k) sc L1.toArray _ cs1 Tryz.underlying113 Tryz.sizeMb hh1 (by rw [hd, hmin2])
      (fun j u hj => by
        rw [Addr.add_lit]
        refine (hb1.cell (p := ⟨g, k * 4 + j, none⟩) hgl).trans ?_
        rw [hcs1, List.getElem?_drop] at hj
        exact hat _ _ hj) (by simp [hl1, hd]; omega) hone
    rw [hmin2, List.toList_toArray, ← hL2, hqe, hq] at this
    rw [hq]
    exact this
  have HEND : Hid (RetM base 124 (.slice (some ⟨g, 0, none⟩) ps.length c) (ps.take k ++ [x] ++ ps.drop k) w (.returned (.slice (some ⟨N, 0, none⟩) (ps.length + 1) G)) ((W1.setRow N L1.toArray).drew.setRow N L2.toArray)) := by
    refine ⟨_, rfl, ⟨by rw [rowC_length], .inr ⟨N, G, L2.toArray, by rw [HFL.out], by omega, setRow_heap _ N L1.toArray _ _ _ hh1, by rw [HFL.out]; exact hGn, hGm, by simpa using hl2, by rw [HFL.out, List.toList_toArray]; exact HFIN.out⟩⟩,
      Apart.of_below (below_setRow hb1.drew (by omega)), fun x hx => .inr (by cases hx; show w.heap.size ≤ N; omega)⟩
  rw [← hN, ← hW1] at hrz
  generalize hnn : ps.length = n at *
  clear hq hqe HFIN HFL hone hmin1 hmin2 hd hl1 hl2 hRl hSl hcs1 hL1 hL2 hh0 hh1 hv0 hb0 hb1 hold hat hRt hRs hROW hG hnn hv hW1 hN hvl hgl
  have hz1 : ¬ ((k : Int) = (n : Int)) := by omega
  have hz3 : (c : Int) < (n : Int) + 1 := by omega
  have mixed : Tryz.prog.follows .mixedOrders = true := by kernel_rfl
  have hw1 : IntKind.i64.wrap ((k : Int) + 1) = (k : Int) + 1 := by rw [IntKind.wrap_i64]; omega
  have hw2 : IntKind.i64.wrap ((n : Int) + 1) = (n : Int) + 1 := by rw [IntKind.wrap_i64]; omega
  have hcz : G ≤ 9223372036854775807 := by unfold maxLen at hGm; omega
  have hb1 : (0 : Int) ≤ (k : Int) + 1 := by omega
  have hin : k ≤ n := by omega
  have htn : ((k : Int) + 1).toNat = k + 1 := by omega
  have hb2 : ¬ (G = k + 1) := by omega
  have hb4 : ¬ (G = k) := by omega
  have hb6 : ¬ (c = k) := by omega
  have hb5 : (k : Int) ≤ (n : Int) + 1 := by omega
  have hb7 : (k : Int) ≤ (n : Int) := by omega
  go_enter Tryz.func119, Tryz.ntmps119
  go_wp2_with (first
    | (at_builtin; refine Lib.wpList_append_run _ rfl _ _ _ _ rfl _ _ rfl rfl _ _ (hrz _) ?_)
    | (at_builtin; refine wpList_copy_runI _ rfl _ _ 113 113 rfl _ _ rfl rfl (hcpA _ _) ?_))
  go_region_law_o (refine step_copy_runI rfl _ _ 113 113 rfl _ _ (by simp [Act.eval, Act.put]) (by simp [Act.eval, Act.put]) (hcpB _ _ _) ?_)
  go_wp2
  go_ret
  exact HEND.out

/-- slices.Insert of one, wherever it goes. -/
theorem insert_any (base : Nat) (v : Value) (ps : List Mb) (k : Nat) (x : Mb) (vb : Nat) (w : World) (h : w.ownsRow base 124 4 v ps.length (rowC ps)) (hk : k ≤ ps.length) (hl : ps.length ≤ 1000) (hbase : base ≤ w.heap.size)
    (hv : w.heap[vb]? = some (.cells #[.int .i64 x.id, .int .i64 x.w, .bool x.on, .int .u64 x.n] 124 (0, 0))) (hne : v.ownBlock ≠ some vb) :
    Calls Tryz.prog 119 #[v, .int .i64 k, .slice (some ⟨vb, 0, none⟩) 1 1] w (RetM base 124 v (ps.take k ++ [x] ++ ps.drop k) w) := by
  by_cases hkn : k = ps.length
  · subst hkn
    have := insert_end base v ps x vb w h hl hbase hv
    rwa [show ps.take ps.length ++ [x] ++ ps.drop ps.length = ps ++ [x] by simp]
  · obtain ⟨h1, h2⟩ := h
    rcases h2 with ⟨_, h0⟩ | ⟨g, cap, cur, rfl, hg, hh, hn, hc, hs, ht⟩
    · omega
    · have hgl : g < w.heap.size := (Array.getElem?_eq_some_iff.1 hh).1
      by_cases hr : ps.length + 1 ≤ cap
      · exact insert_shift base g cap cur ps k x vb w hh hg (by omega) hr hc hs ht hl hbase hv (fun e => hne (by rw [e]; rfl))
      · refine insert_grow base g cap ps k x vb w (fun j u hj => ?_) (by omega) hn (by omega) hl hbase hgl hv
        rw [cell_of_row w g j _ _ (0, 0) hh, ← Array.getElem?_toList]
        rw [← ht] at hj
        by_cases hjn : j < ps.length * 4
        · rwa [List.getElem?_take_of_lt hjn] at hj
        · rw [List.getElem?_take_eq_none (by omega)] at hj; cases hj

end Go.Proofs.YtpfpojehcjmfnaaGreat.Rn
