/-
  Who has the least pass: first; the floor; where a member stands: seek.
  Conditions: the ring lies in memory; its numbers fit.
-/
import Derived.Test.YtanchjcifhbllaaLess
set_option linter.unusedVariables false
namespace Go.Proofs.Ytanchjcifhbllaa
open Go.RowKit Go.Sort

theorem takes_some {m : Mb} {x : Nat × Mb} (ho : m.on = true) : takes m (some x) = decide (m.n * x.2.w < x.2.n * m.w) := by
  unfold takes lessM
  rw [ho]
  rfl
theorem drop_of {α : Type} {l : List α} {k : Nat} {x : α} (h : l[k]? = some x) : l.drop k = x :: l.drop (k + 1) := by
  obtain ⟨hlt, e⟩ := List.getElem?_eq_some_iff.1 h
  rw [List.drop_eq_getElem_cons hlt, e]
/-- An operation whose guard is struck. -/
theorem struck_if {b : Bool} {p q : Prop} (hb : b = false) (h : q) : if b = true then p else q := by
  rw [hb]
  exact h
theorem best_go {l : List Mb} {k : Nat} {m : Mb} (hm : l[k]? = some m) {b r : Option (Nat × Mb)} (h : bestGo (l.drop k) k b = r) : bestGo (l.drop (k + 1)) (k + 1) (if takes m b = true then some (k, m) else b) = r := by
  rw [drop_of hm] at h
  exact h
theorem grew_on {B : Nat} {w w1 : World} (h : Below B w w1) (hB : B < w1.heap.size) (n : Nat) (os : Array Obj) : Below B w (grow (w1.drewN n) os) :=
  (below_drewN h n).trans ((grow_below (w1.drewN n) os).mono (show B ≤ w1.heap.size from Nat.le_of_lt hB))

set_option maxRecDepth 100000 in
set_option maxHeartbeats 1000000 in
theorem first_any (W : World) (rb : Nat) (mv : Value) (s : Rg) (C : Nat) (h : RingAt W rb mv s) (hf : Fit C s) (hlim : 0 < s.lim) (hl : C ≤ 1099511627777) :
    Calls Try.prog 29 #[.pointer (some ⟨rb, 0, none⟩)] W (RetB (.int .i64 (idxI (best s.l))) W) := by
  have HMADE := Lib.hid (fun W h => isMade_any W rb mv s h hlim)
  have HR := Lib.hid h
  have HF := Lib.hid hf
  have HLIM := Lib.hid hl
  have hlen := hf.len
  obtain ⟨_, c1, _⟩ := h.heads
  have hrl := h.lt
  obtain ⟨A, c, rfl⟩ := h.form
  generalize hn : s.l.length = n at *
  have HN := Lib.hid hn
  clear h hf hl hn hlim
  have mixed : Try.prog.follows .mixedOrders = true := by kernel_rfl
  go_enter Try.func29, Try.ntmps29
  go_wp2_with fail
  refine (HMADE.out _ HR.out).mono ?_
  rintro e w' ⟨rfl, rfl⟩
  go_wp2_with fail
  go_loopg [3, 14] n (fun gg s3 s14 wr => ∃ (k : Nat) (b : Option (Nat × Mb)), k ≤ n ∧ gg = n - k ∧ s14 = .int .i64 k ∧ s3 = .int .i64 (idxI b) ∧ Below W.heap.size W wr ∧ bestGo (s.l.drop k) k b = best s.l ∧ ∀ x, b = some x → s.l[x.1]? = some x.2)
  case atStart => exact ⟨0, none, Nat.zero_le _, by omega, rfl, rfl, Below.refl _ W, rfl, fun x hx => by cases hx⟩
  case round =>
    obtain ⟨k, b, hk, hg, rfl, rfl, hbw, hbest, hbx⟩ := hrel
    have HB := Lib.hid hbw
    have HBEST := Lib.hid hbest
    have HBX := Lib.hid hbx
    have HG := Lib.hid hg
    clear hbest hbx hg
    by_cases hlt : k < n
    · have hltz : (k : Int) < (n : Int) := by omega
      obtain ⟨m, hm⟩ := ex_at (xs := s.l) (k := k) (by rw [HN.out]; exact hlt)
      obtain ⟨g, cap, hA, hgl, _, _, _, hat, _⟩ := HR.out.at_ hm
      have e1 : A = some ⟨g, 0, none⟩ := by injection hA
      clear hA
      subst e1
      have HGL := Lib.hid hgl
      have hgl2 : g < wr.heap.size := Nat.lt_of_lt_of_le hgl hbw.size
      have hrl2 : rb < wr.heap.size := Nat.lt_of_lt_of_le hrl hbw.size
      obtain ⟨m0, m1, m2, m3⟩ := hat.keep (hbw.block g hgl)
      have c1' := (hbw.cell (p := ⟨rb, 1, none⟩) hrl).trans c1
      obtain ⟨f1, f2, f3, f4, f5⟩ := HF.out.mem m (List.mem_of_getElem? hm)
      have f6 : m.n < 18446744073709551616 := by have := HLIM.out; have : C * m.w ≤ 1099511627777 * 1000 := Nat.mul_le_mul this f4; omega
      have HP := Lib.hid (fun W => pass_any m f4 W)
      have HROUND : Hid (∀ w2, Below wr.heap.size wr w2 → Below W.heap.size W w2) := fun w2 h2 => HB.out.trans (h2.mono HB.out.size)
      have HW1 : Hid (∀ P, wr.heap.size = P → ∀ w1, w1 = wr.alloc (.cells #[.int .i64 m.id, .int .i64 m.w, .bool m.on, .int .u64 m.n] 76) → P < w1.heap.size ∧ Below wr.heap.size wr w1 ∧ w1.cell? ⟨P, 0, none⟩ = some (.int .i64 m.id) ∧ w1.cell? ⟨P, 1, none⟩ = some (.int .i64 m.w) ∧ w1.cell? ⟨P, 2, none⟩ = some (.bool m.on) ∧ w1.cell? ⟨P, 3, none⟩ = some (.int .u64 m.n)) := by
        rintro P rfl w1 rfl
        exact ⟨by simp, (Below.refl _ wr).alloc (Nat.le_refl _) _, World.cell?_alloc_new (w := wr) _ _ 0, World.cell?_alloc_new (w := wr) _ _ 1, World.cell?_alloc_new (w := wr) _ _ 2, World.cell?_alloc_new (w := wr) _ _ 3⟩
      have HGO := Lib.hid (best_go hm HBEST.out)
      have HM := Lib.hid hm
      cases ho : m.on with
      | false =>
        have ht : ¬ takes m b = true := by unfold takes; rw [ho]; simp
        rw [if_neg ht] at HGO
        rw [ho] at m2
        clear hat hbw hm f1 f2 f3 f4 f5 f6 HP ht
        obtain ⟨m1', m2', m3', m4'⟩ := m
        simp only at m0 m1 m3 ho HW1
        subst ho
        obtain ⟨bi, hbi⟩ : ∃ bi, idxI b = bi := ⟨_, rfl⟩
        rw [hbi]
        have HBI := Lib.hid hbi
        clear hbi
        go_upto_region 7 with fail
        obtain ⟨h1, h2, q0, q1, q2, q3⟩ := HW1.out _ rfl _ rfl
        have HB2 := Lib.hid h2
        generalize hw1 : wr.alloc (Obj.cells #[Value.int .i64 m1', Value.int .i64 m2', .bool false, .int .u64 m3'] 76) = w1 at *
        generalize hP : wr.heap.size = P at *
        have g2 := cell_grown h1 q2
        clear hw1 q0 q1 q2 q3 h2
        refine wp_region_quiet_grown mixed (by kernel_rfl) ?_
        with_reducible refine wpQuiet_step (fun K hK => ?_); go_simp; with_reducible refine hK _ ?_; clear hK K
        with_reducible refine wpQuiet_step (fun K hK => ?_); go_simp; with_reducible refine hK _ ?_; clear hK K
        with_reducible refine wpQuiet_step (fun K hK => ?_); go_simp; with_reducible refine hK _ ?_; clear hK K
        with_reducible refine wpQuiet_step (fun K hK => ?_); go_simp; with_reducible refine hK _ ?_; clear hK K
        with_reducible refine wpQuiet_step (fun K hK => ?_); with_reducible refine struck_if (by kernel_rfl) ?_; go_simp; with_reducible refine hK _ ?_; clear hK K
        with_reducible refine wpQuiet_step (fun K hK => ?_); with_reducible refine struck_if (by kernel_rfl) ?_; go_simp; with_reducible refine hK _ ?_; clear hK K
        with_reducible refine wpQuiet_step (fun K hK => ?_); with_reducible refine struck_if (by kernel_rfl) ?_; go_simp; with_reducible refine hK _ ?_; clear hK K
        with_reducible refine wpQuiet_step (fun K hK => ?_); with_reducible refine struck_if (by kernel_rfl) ?_; go_simp; with_reducible refine hK _ ?_; clear hK K
        with_reducible refine wpQuiet_step (fun K hK => ?_); with_reducible refine struck_if (by kernel_rfl) ?_; go_simp; with_reducible refine hK _ ?_; clear hK K
        with_reducible refine wpQuiet_step (fun K hK => ?_); with_reducible refine struck_if (by kernel_rfl) ?_; go_simp; with_reducible refine hK _ ?_; clear hK K
        with_reducible refine wpQuiet_step (fun K hK => ?_); with_reducible refine struck_if (by kernel_rfl) ?_; go_simp; with_reducible refine hK _ ?_; clear hK K
        with_reducible refine wpQuiet_step (fun K hK => ?_); with_reducible refine struck_if (by kernel_rfl) ?_; go_simp; with_reducible refine hK _ ?_; clear hK K
        with_reducible refine wpQuiet_step (fun K hK => ?_); with_reducible refine struck_if (by kernel_rfl) ?_; go_simp; with_reducible refine hK _ ?_; clear hK K
        with_reducible refine wpQuiet_step (fun K hK => ?_); with_reducible refine struck_if (by kernel_rfl) ?_; go_simp; with_reducible refine hK _ ?_; clear hK K
        with_reducible refine wpQuiet_step (fun K hK => ?_); with_reducible refine struck_if (by kernel_rfl) ?_; go_simp; with_reducible refine hK _ ?_; clear hK K
        with_reducible refine wpQuiet_step (fun K hK => ?_); with_reducible refine struck_if (by kernel_rfl) ?_; go_simp; with_reducible refine hK _ ?_; clear hK K
        with_reducible refine wpQuiet_step (fun K hK => ?_); with_reducible refine struck_if (by kernel_rfl) ?_; go_simp; with_reducible refine hK _ ?_; clear hK K
        with_reducible refine wpQuiet_step (fun K hK => ?_); with_reducible refine struck_if (by kernel_rfl) ?_; go_simp; with_reducible refine hK _ ?_; clear hK K
        with_reducible refine wpQuiet_step (fun K hK => ?_); with_reducible refine struck_if (by kernel_rfl) ?_; go_simp; with_reducible refine hK _ ?_; clear hK K
        with_reducible refine wpQuiet_step (fun K hK => ?_); go_simp; with_reducible refine hK _ ?_; clear hK K
        refine wpQuiet_nil ?_
        rintro _ ⟨⟨nq, osq⟩, rfl⟩
        go_wp2
        go_roundg (n - (k + 1))
        case measure => have := HG.out; omega
        case rel => exact ⟨k + 1, b, by omega, rfl, by go_num, (by rw [HBI.out]), HROUND.out _ (grew_on HB2.out h1 nq osq), HGO.out, HBX.out⟩
      | true =>
        rw [ho] at m2
        cases b with
        | none =>
          have ht : takes m none = true := by unfold takes; rw [ho]; rfl
          rw [if_pos ht] at HGO
          clear hat hbw hm f1 f2 f3 f4 f5 f6 HP ht
          obtain ⟨m1', m2', m3', m4'⟩ := m
          simp only at m0 m1 m3 ho HW1
          subst ho
          have hbi : idxI none = -1 := rfl
          rw [hbi]
          clear hbi
          go_upto_region 7 with fail
          obtain ⟨h1, h2, q0, q1, q2, q3⟩ := HW1.out _ rfl _ rfl
          have HB2 := Lib.hid h2
          generalize hw1 : wr.alloc (Obj.cells #[Value.int .i64 m1', Value.int .i64 m2', .bool true, .int .u64 m3'] 76) = w1 at *
          generalize hP : wr.heap.size = P at *
          have g2 := cell_grown h1 q2
          clear hw1 q0 q1 q2 q3 h2
          refine wp_region_quiet_grown mixed (by kernel_rfl) ?_
          with_reducible refine wpQuiet_step (fun K hK => ?_); go_simp; with_reducible refine hK _ ?_; clear hK K
          with_reducible refine wpQuiet_step (fun K hK => ?_); go_simp; with_reducible refine hK _ ?_; clear hK K
          with_reducible refine wpQuiet_step (fun K hK => ?_); go_simp; with_reducible refine hK _ ?_; clear hK K
          with_reducible refine wpQuiet_step (fun K hK => ?_); go_simp; with_reducible refine hK _ ?_; clear hK K
          with_reducible refine wpQuiet_step (fun K hK => ?_); go_simp; with_reducible refine hK _ ?_; clear hK K
          with_reducible refine wpQuiet_step (fun K hK => ?_); go_simp; with_reducible refine hK _ ?_; clear hK K
          with_reducible refine wpQuiet_step (fun K hK => ?_); go_simp; with_reducible refine hK _ ?_; clear hK K
          with_reducible refine wpQuiet_step (fun K hK => ?_); with_reducible refine struck_if (by kernel_rfl) ?_; go_simp; with_reducible refine hK _ ?_; clear hK K
          with_reducible refine wpQuiet_step (fun K hK => ?_); with_reducible refine struck_if (by kernel_rfl) ?_; go_simp; with_reducible refine hK _ ?_; clear hK K
          with_reducible refine wpQuiet_step (fun K hK => ?_); with_reducible refine struck_if (by kernel_rfl) ?_; go_simp; with_reducible refine hK _ ?_; clear hK K
          with_reducible refine wpQuiet_step (fun K hK => ?_); with_reducible refine struck_if (by kernel_rfl) ?_; go_simp; with_reducible refine hK _ ?_; clear hK K
          with_reducible refine wpQuiet_step (fun K hK => ?_); with_reducible refine struck_if (by kernel_rfl) ?_; go_simp; with_reducible refine hK _ ?_; clear hK K
          with_reducible refine wpQuiet_step (fun K hK => ?_); with_reducible refine struck_if (by kernel_rfl) ?_; go_simp; with_reducible refine hK _ ?_; clear hK K
          with_reducible refine wpQuiet_step (fun K hK => ?_); with_reducible refine struck_if (by kernel_rfl) ?_; go_simp; with_reducible refine hK _ ?_; clear hK K
          with_reducible refine wpQuiet_step (fun K hK => ?_); with_reducible refine struck_if (by kernel_rfl) ?_; go_simp; with_reducible refine hK _ ?_; clear hK K
          with_reducible refine wpQuiet_step (fun K hK => ?_); with_reducible refine struck_if (by kernel_rfl) ?_; go_simp; with_reducible refine hK _ ?_; clear hK K
          with_reducible refine wpQuiet_step (fun K hK => ?_); with_reducible refine struck_if (by kernel_rfl) ?_; go_simp; with_reducible refine hK _ ?_; clear hK K
          with_reducible refine wpQuiet_step (fun K hK => ?_); with_reducible refine struck_if (by kernel_rfl) ?_; go_simp; with_reducible refine hK _ ?_; clear hK K
          with_reducible refine wpQuiet_step (fun K hK => ?_); go_simp; with_reducible refine hK _ ?_; clear hK K
          with_reducible refine wpQuiet_step (fun K hK => ?_); go_simp; with_reducible refine hK _ ?_; clear hK K
          refine wpQuiet_nil ?_
          rintro _ ⟨⟨nq, osq⟩, rfl⟩
          go_wp2
          go_roundg (n - (k + 1))
          case measure => have := HG.out; omega
          case rel => exact ⟨k + 1, some (k, ⟨m1', m2', m3', true⟩), by omega, rfl, by go_num, rfl, HROUND.out _ (grew_on HB2.out h1 nq osq), HGO.out, fun x hx => by injection hx with hx; subst hx; exact HM.out⟩
        | some x =>
          obtain ⟨j, x⟩ := x
          have hx : s.l[j]? = some x := HBX.out _ rfl
          have hjn : j < n := by have := (List.getElem?_eq_some_iff.1 hx).1; have := HN.out; omega
          have hjz : (j : Int) < (n : Int) := by omega
          obtain ⟨k1, k2, k3, k4, k5⟩ := HF.out.mem x (List.mem_of_getElem? hx)
          have k6 : x.n < 18446744073709551616 := by have := HLIM.out; have : C * x.w ≤ 1099511627777 * 1000 := Nat.mul_le_mul this k4; omega
          obtain ⟨g', cap', hA', _, _, _, _, hat', _⟩ := HR.out.at_ hx
          have e2 : g' = g := by injection hA' with hA' _ _; injection hA' with hA'; injection hA' with hA' _; exact hA'.symm
          clear hA'
          subst e2
          obtain ⟨x0, x1, x2, x3⟩ := hat'.keep (hbw.block g' hgl)
          have HPX := Lib.hid (fun W => pass_any x k4 W)
          obtain ⟨dd, hdd⟩ : ∃ dd, decide (m.n * x.w < x.n * m.w) = dd := ⟨_, rfl⟩
          have HL : Hid (∀ W, Calls Try.prog 53 #[passA m.n m.w, passA x.n x.w] W (RetG (.bool dd) W)) := fun W => by
            rw [← hdd]
            exact less_any m.n m.w x.n x.w f6 (by omega) k6 (by omega) (by simp; omega) (by simp; omega) W
          rw [takes_some ho, show decide (m.n * (j, x).2.w < (j, x).2.n * m.w) = dd from hdd] at HGO
          have hbi : idxI (some (j, x)) = (j : Int) := rfl
          rw [hbi]
          unfold mbA passA at HP HPX HL
          clear hat hbw hm f1 f2 f3 f4 f5 f6 hbi hat' k1 k2 k3 k4 k5 k6 hdd hx
          obtain ⟨m1', m2', m3', m4'⟩ := m
          obtain ⟨y1', y2', y3', y4'⟩ := x
          simp only at m0 m1 m3 ho HW1 HP HPX HL x0 x1 x2 x3
          subst ho
          go_upto_region 7 with fail
          obtain ⟨h1, h2, q0, q1, q2, q3⟩ := HW1.out _ rfl _ rfl
          have HB2 := Lib.hid h2
          generalize hw1 : wr.alloc (Obj.cells #[Value.int .i64 m1', Value.int .i64 m2', .bool true, .int .u64 m3'] 76) = w1 at *
          generalize hP : wr.heap.size = P at *
          have a0 := cell_grown h1 q0
          have a1 := cell_grown h1 q1
          have a2 := cell_grown h1 q2
          have a3 := cell_grown h1 q3
          have b0 := cell_grown (w := w1) (by show g' < _; omega) ((h2.cell (p := ⟨g', j * 4, none⟩) hgl2).trans x0)
          have b1 := cell_grown (w := w1) (by show g' < _; omega) ((h2.cell (p := ⟨g', j * 4 + 1, none⟩) hgl2).trans x1)
          have b2 := cell_grown (w := w1) (by show g' < _; omega) ((h2.cell (p := ⟨g', j * 4 + 2, none⟩) hgl2).trans x2)
          have b3 := cell_grown (w := w1) (by show g' < _; omega) ((h2.cell (p := ⟨g', j * 4 + 3, none⟩) hgl2).trans x3)
          have r1 := cell_grown (w := w1) (by show rb < _; omega) ((h2.cell (p := ⟨rb, 1, none⟩) hrl2).trans c1')
          clear hw1 q0 q1 q2 q3 h2 m0 m1 m2 m3 x0 x1 x2 x3 c1' c1
          have hjz2 : decide ((j : Int) < 0) = false := decide_eq_false (by omega)
          refine wp_region_quiet_grown mixed (by kernel_rfl) ?_
          with_reducible refine wpQuiet_step (fun K hK => ?_); go_simp; with_reducible refine hK _ ?_; clear hK K
          with_reducible refine wpQuiet_step (fun K hK => ?_); go_simp; with_reducible refine hK _ ?_; clear hK K
          with_reducible refine wpQuiet_step (fun K hK => ?_); go_simp; with_reducible refine hK _ ?_; clear hK K
          with_reducible refine wpQuiet_step (fun K hK => ?_); go_simp; with_reducible refine hK _ ?_; clear hK K
          with_reducible refine wpQuiet_step (fun K hK => ?_); go_simp; with_reducible refine hK _ ?_; clear hK K
          with_reducible refine wpQuiet_step (fun K hK => ?_); go_simp; with_reducible refine hK _ ?_; clear hK K
          with_reducible refine wpQuiet_step (fun K hK => ?_); go_simp; with_reducible refine hK _ ?_; clear hK K
          with_reducible refine wpQuiet_step (fun K hK => ?_); go_simp; with_reducible refine hK _ ?_; clear hK K
          quiet_step (first | (go_at_call 33; refine grown_met (HP.out _)))
          with_reducible refine wpQuiet_step (fun K hK => ?_); go_simp; with_reducible refine hK _ ?_; clear hK K
          with_reducible refine wpQuiet_step (fun K hK => ?_); go_simp; with_reducible refine hK _ ?_; clear hK K
          with_reducible refine wpQuiet_step (fun K hK => ?_); go_simp; with_reducible refine hK _ ?_; clear hK K
          with_reducible refine wpQuiet_step (fun K hK => ?_); go_simp; with_reducible refine hK _ ?_; clear hK K
          with_reducible refine wpQuiet_step (fun K hK => ?_); go_simp; with_reducible refine hK _ ?_; clear hK K
          with_reducible refine wpQuiet_step (fun K hK => ?_); go_simp; with_reducible refine hK _ ?_; clear hK K
          with_reducible refine wpQuiet_step (fun K hK => ?_); go_simp; with_reducible refine hK _ ?_; clear hK K
          quiet_step (first | (go_at_call 33; refine grown_met (HPX.out _)))
          quiet_step (first | (go_at_call 53; refine grown_met (HL.out _)))
          with_reducible refine wpQuiet_step (fun K hK => ?_); go_simp; with_reducible refine hK _ ?_; clear hK K
          with_reducible refine wpQuiet_step (fun K hK => ?_); go_simp; with_reducible refine hK _ ?_; clear hK K
          refine wpQuiet_nil ?_
          rintro _ ⟨⟨nq, osq⟩, rfl⟩
          cases dd with
          | true =>
            rw [if_pos rfl] at HGO
            go_wp2
            go_roundg (n - (k + 1))
            case measure => have := HG.out; omega
            case rel => exact ⟨k + 1, some (k, ⟨m1', m2', m3', true⟩), by omega, rfl, by go_num, rfl, HROUND.out _ (grew_on HB2.out h1 nq osq), HGO.out, fun x hx => by injection hx with hx; subst hx; exact HM.out⟩
          | false =>
            rw [if_neg (by decide)] at HGO
            go_wp2
            go_roundg (n - (k + 1))
            case measure => have := HG.out; omega
            case rel => exact ⟨k + 1, some (j, ⟨y1', y2', y3', y4'⟩), by omega, rfl, by go_num, rfl, HROUND.out _ (grew_on HB2.out h1 nq osq), HGO.out, HBX.out⟩
    · have hltz : ¬ (k : Int) < (n : Int) := by omega
      have hfin : b = best s.l := by
        have := HBEST.out
        rwa [List.drop_of_length_le (by have := HN.out; omega)] at this
      have hbi : idxI b = idxI (best s.l) := by rw [hfin]
      generalize idxI b = bi at *
      have HBI := Lib.hid hbi
      clear hfin hbi
      go_wp2
      go_ret
      exact ⟨by rw [← HBI.out]; rfl, HB.out⟩
end Go.Proofs.Ytanchjcifhbllaa
