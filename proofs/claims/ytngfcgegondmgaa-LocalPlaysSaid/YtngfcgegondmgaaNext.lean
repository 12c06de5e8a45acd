/-
  Who is next: next.
  Conditions: the local lies in memory; the slice reads as ints.
-/
import Derived.Test.YtngfcgegondmgaaBefore
set_option linter.unusedVariables false
namespace Go.Proofs.Ytngfcgegondmgaa
open Go.RowKit Go.Sort

def idxI : Option (Nat × Lm) → Int
  | none => -1
  | some b => (b.1 : Int)
def offB (xs : List Int) (u : Nat) : Bool := hasI xs (u : Int)

set_option maxRecDepth 100000 in
set_option maxHeartbeats 1000000 in
theorem next_any (W : World) (rb : Nat) (mv : Value) (l : List Lm) (ov : Value) (xs : List Int) (h : LocAt W rb mv l) (ho : OkL 1000000 l) (hx : IntsAt W ov xs) :
    Calls Try.prog 30 #[.pointer (some ⟨rb, 0, none⟩), ov] W (RetB (.int .i64 (idxI (nextT (offB xs) l))) W) := by
  have HR := Lib.hid h
  have HF := Lib.hid ho
  have HX := Lib.hid hx
  have hlen := ho.len
  obtain ⟨c1, _⟩ := h.heads
  have hrl := h.lt
  obtain ⟨A, c, rfl⟩ := h.form
  obtain ⟨OA, oc, rfl⟩ := hx.form
  generalize hon : xs.length = on at *
  generalize hn : l.length = n at *
  have HN := Lib.hid hn
  clear h ho hx hn hon
  have mixed : Try.prog.follows .mixedOrders = true := by kernel_rfl
  go_enter Try.func30, Try.ntmps30
  go_wp2_with fail
  go_loopg [5, 6, 7, 15] n (fun gg s5 _ _ s15 wr => ∃ (k : Nat) (b : Option (Nat × Lm)), k ≤ n ∧ gg = n - k ∧ s15 = .int .i64 k ∧ s5 = .int .i64 (idxI b) ∧ Below W.heap.size W wr ∧ nextGo (offB xs) k b (l.drop k) = nextT (offB xs) l ∧ ∀ x, b = some x → l[x.1]? = some x.2)
  case atStart => exact ⟨0, none, Nat.zero_le _, by omega, rfl, rfl, Below.refl _ W, rfl, fun x hx => by cases hx⟩
  case round =>
    obtain ⟨k, b, hk, hg, rfl, rfl, hbw, hbest, hbx⟩ := hrel
    have HB := Lib.hid hbw
    have HBEST := Lib.hid hbest
    have HBX := Lib.hid hbx
    have HG := Lib.hid hg
    clear hbest hbx hg
    by_cases hlt : k < n
    · have hltz : (k : Int) < (n : Int) := by omega
      obtain ⟨m, hm⟩ := ex_at (xs := l) (k := k) (by rw [HN.out]; exact hlt)
      obtain ⟨g, cap, hA, hgl, _, _, _, hat, _⟩ := HR.out.at_ hm
      have e1 : A = some ⟨g, 0, none⟩ := by injection hA
      clear hA
      subst e1
      have hgl2 : g < wr.heap.size := Nat.lt_of_lt_of_le hgl hbw.size
      have hrl2 : rb < wr.heap.size := Nat.lt_of_lt_of_le hrl hbw.size
      obtain ⟨m0, m1, m2⟩ := hat.keep (hbw.block g hgl)
      have c1' := (hbw.cell (p := ⟨rb, 0, none⟩) hrl).trans c1
      have f1 := HF.out.got m (List.mem_of_getElem? hm)
      have f2 := HF.out.share m (List.mem_of_getElem? hm)
      have f3 := HF.out.s64 (List.mem_of_getElem? hm)
      have HROUND : Hid (∀ w2, Below wr.heap.size wr w2 → Below W.heap.size W w2) := fun w2 h2 => HB.out.trans (h2.mono HB.out.size)
      have HW1 : Hid (∀ P, wr.heap.size = P → ∀ w1, w1 = wr.alloc (.cells #[.int .i64 m.u, .int .i64 m.s, .int .i64 m.g] 67) → P < w1.heap.size ∧ Below wr.heap.size wr w1 ∧ w1.cell? ⟨P, 0, none⟩ = some (.int .i64 m.u) ∧ w1.cell? ⟨P, 1, none⟩ = some (.int .i64 m.s) ∧ w1.cell? ⟨P, 2, none⟩ = some (.int .i64 m.g)) := by
        rintro P rfl w1 rfl
        exact ⟨by simp, (Below.refl _ wr).alloc (Nat.le_refl _) _, World.cell?_alloc_new (w := wr) _ _ 0, World.cell?_alloc_new (w := wr) _ _ 1, World.cell?_alloc_new (w := wr) _ _ 2⟩
      have HGO := Lib.hid (next_step hm HBEST.out)
      have HM := Lib.hid hm
      have HCON : Hid (∀ w1, Below wr.heap.size wr w1 → Calls Try.prog 42 #[.slice OA on oc, .int .i64 m.u] w1 (Ret (.bool (offB xs m.u)) w1)) := fun w1 h1 => contains_ints _ xs _ w1 ((HX.out.keep HB.out).keep h1)
      cases hof : offB xs m.u with
      | true =>
        rw [step_off hof] at HGO
        rw [hof] at HCON
        clear hat hbw hm f1 f2 f3 c1 c1'
        obtain ⟨m1', m2', m3'⟩ := m
        simp only at m0 m1 m2 hof HW1 HCON
        obtain ⟨bi, hbi⟩ : ∃ bi, idxI b = bi := ⟨_, rfl⟩
        rw [hbi]
        have HBI := Lib.hid hbi
        clear hbi
        go_wp2_with fail
        obtain ⟨h1, h2, q0, q1, q2⟩ := HW1.out _ rfl _ rfl
        have HB2 := Lib.hid h2
        refine (HCON.out _ h2).mono ?_
        rintro e w' ⟨rfl, rfl⟩
        generalize hw1 : wr.alloc (Obj.cells #[Value.int .i64 m1', Value.int .i64 m2', .int .i64 m3'] 67) = w1 at *
        go_wp2
        go_roundg (n - (k + 1))
        case measure => have := HG.out; omega
        case rel => exact ⟨k + 1, b, by omega, rfl, by go_num, (by rw [HBI.out]), HROUND.out _ HB2.out, HGO.out, HBX.out⟩
      | false =>
        rw [hof] at HCON
        cases b with
        | none =>
          rw [step_takes hof rfl] at HGO
          clear hat hbw f1 f2 f3 c1 c1'
          obtain ⟨m1', m2', m3'⟩ := m
          simp only at m0 m1 m2 hof HW1 HCON
          have hbi : idxI none = -1 := rfl
          rw [hbi]
          clear hbi hm
          go_wp2_with fail
          obtain ⟨h1, h2, q0, q1, q2⟩ := HW1.out _ rfl _ rfl
          have HB2 := Lib.hid h2
          refine (HCON.out _ h2).mono ?_
          rintro e w' ⟨rfl, rfl⟩
          generalize hw1 : wr.alloc (Obj.cells #[Value.int .i64 m1', Value.int .i64 m2', .int .i64 m3'] 67) = w1 at *
          generalize hP : wr.heap.size = P at *
          clear hw1 q0 q1 q2 h2
          go_wp2_with fail
          refine wp_region_quiet_grown mixed (by kernel_rfl) ?_
          with_reducible refine wpQuiet_step (fun K hK => ?_); go_simp; with_reducible refine hK _ ?_; clear hK K
          with_reducible refine wpQuiet_step (fun K hK => ?_); go_simp; with_reducible refine hK _ ?_; clear hK K
          with_reducible refine wpQuiet_step (fun K hK => ?_); go_simp; with_reducible refine hK _ ?_; clear hK K
          with_reducible refine wpQuiet_step (fun K hK => ?_); with_reducible refine struck_if (by kernel_rfl) ?_; go_simp; with_reducible refine hK _ ?_; clear hK K
          with_reducible refine wpQuiet_step (fun K hK => ?_); with_reducible refine struck_if (by kernel_rfl) ?_; go_simp; with_reducible refine hK _ ?_; clear hK K
          with_reducible refine wpQuiet_step (fun K hK => ?_); with_reducible refine struck_if (by kernel_rfl) ?_; go_simp; with_reducible refine hK _ ?_; clear hK K
          with_reducible refine wpQuiet_step (fun K hK => ?_); with_reducible refine struck_if (by kernel_rfl) ?_; go_simp; with_reducible refine hK _ ?_; clear hK K
          with_reducible refine wpQuiet_step (fun K hK => ?_); with_reducible refine struck_if (by kernel_rfl) ?_; go_simp; with_reducible refine hK _ ?_; clear hK K
          with_reducible refine wpQuiet_step (fun K hK => ?_); with_reducible refine struck_if (by kernel_rfl) ?_; go_simp; with_reducible refine hK _ ?_; clear hK K
          with_reducible refine wpQuiet_step (fun K hK => ?_); with_reducible refine struck_if (by kernel_rfl) ?_; go_simp; with_reducible refine hK _ ?_; clear hK K
          with_reducible refine wpQuiet_step (fun K hK => ?_); with_reducible refine struck_if (by kernel_rfl) ?_; go_simp; with_reducible refine hK _ ?_; clear hK K
          with_reducible refine wpQuiet_step (fun K hK => ?_); with_reducible refine struck_if (by kernel_rfl) ?_; go_simp; with_reducible refine hK _ ?_; clear hK K
          with_reducible refine wpQuiet_step (fun K hK => ?_); go_simp; with_reducible refine hK _ ?_; clear hK K
          refine wpQuiet_nil ?_
          rintro _ ⟨⟨nq, osq⟩, rfl⟩
          go_wp2
          go_roundg (n - (k + 1))
          case measure => have := HG.out; omega
          case rel => exact ⟨k + 1, some (k, ⟨m1', m2', m3'⟩), by omega, rfl, by go_num, rfl, HROUND.out _ (grew_on HB2.out h1 nq osq), HGO.out, fun x hx => by injection hx with hx; subst hx; exact HM.out⟩
        | some x =>
          obtain ⟨j, x⟩ := x
          have hxl : l[j]? = some x := HBX.out _ rfl
          have hjn : j < n := by have := (List.getElem?_eq_some_iff.1 hxl).1; have := HN.out; omega
          have hjz : (j : Int) < (n : Int) := by omega
          have k1 := HF.out.got x (List.mem_of_getElem? hxl)
          have k2 := HF.out.share x (List.mem_of_getElem? hxl)
          have k3 := HF.out.s64 (List.mem_of_getElem? hxl)
          obtain ⟨g', cap', hA', _, _, _, _, hat', _⟩ := HR.out.at_ hxl
          have e2 : g' = g := by injection hA' with hA' _ _; injection hA' with hA'; injection hA' with hA' _; exact hA'.symm
          clear hA'
          subst e2
          obtain ⟨x0, x1, x2⟩ := hat'.keep (hbw.block g' hgl)
          obtain ⟨dd, hdd⟩ : ∃ dd, decide ((m.g + 1) * x.s < (x.g + 1) * m.s) = dd := ⟨_, rfl⟩
          have HL : Hid (∀ W, Calls Try.prog 43 #[mbA m, mbA x] W (RetG (.bool dd) W)) := fun W => by
            rw [← hdd]
            exact before_any m x f1 k1 f2 f3 k2 k3 W
          have HT : Hid (takesL m (some (j, x)) = dd) := hdd
          have HOF := Lib.hid hof
          have hbi : idxI (some (j, x)) = (j : Int) := rfl
          rw [hbi]
          unfold mbA at HL
          clear hat hbw hm f1 f2 f3 hbi hat' k1 k2 k3 hdd hxl c1
          obtain ⟨m1', m2', m3'⟩ := m
          obtain ⟨y1', y2', y3'⟩ := x
          simp only at m0 m1 m2 hof HW1 HCON HL x0 x1 x2
          go_wp2_with fail
          obtain ⟨h1, h2, q0, q1, q2⟩ := HW1.out _ rfl _ rfl
          have HB2 := Lib.hid h2
          refine (HCON.out _ h2).mono ?_
          rintro e w' ⟨rfl, rfl⟩
          generalize hw1 : wr.alloc (Obj.cells #[Value.int .i64 m1', Value.int .i64 m2', .int .i64 m3'] 67) = w1 at *
          generalize hP : wr.heap.size = P at *
          have a0 := cell_grown h1 q0
          have a1 := cell_grown h1 q1
          have a2 := cell_grown h1 q2
          have b0 := cell_grown (w := w1) (by show g' < _; omega) ((h2.cell (p := ⟨g', j * 3, none⟩) hgl2).trans x0)
          have b1 := cell_grown (w := w1) (by show g' < _; omega) ((h2.cell (p := ⟨g', j * 3 + 1, none⟩) hgl2).trans x1)
          have b2 := cell_grown (w := w1) (by show g' < _; omega) ((h2.cell (p := ⟨g', j * 3 + 2, none⟩) hgl2).trans x2)
          have r1 := cell_grown (w := w1) (by show rb < _; omega) ((h2.cell (p := ⟨rb, 0, none⟩) hrl2).trans c1')
          clear hw1 q0 q1 q2 h2 m0 m1 m2 x0 x1 x2 c1'
          have hjz2 : decide ((j : Int) < 0) = false := decide_eq_false (by omega)
          go_wp2_with fail
          refine wp_region_quiet_grown mixed (by kernel_rfl) ?_
          with_reducible refine wpQuiet_step (fun K hK => ?_); go_simp; with_reducible refine hK _ ?_; clear hK K
          with_reducible refine wpQuiet_step (fun K hK => ?_); go_simp; with_reducible refine hK _ ?_; clear hK K
          with_reducible refine wpQuiet_step (fun K hK => ?_); go_simp; with_reducible refine hK _ ?_; clear hK K
          with_reducible refine wpQuiet_step (fun K hK => ?_); go_simp; with_reducible refine hK _ ?_; clear hK K
          with_reducible refine wpQuiet_step (fun K hK => ?_); go_simp; with_reducible refine hK _ ?_; clear hK K
          with_reducible refine wpQuiet_step (fun K hK => ?_); go_simp; with_reducible refine hK _ ?_; clear hK K
          with_reducible refine wpQuiet_step (fun K hK => ?_); go_simp; with_reducible refine hK _ ?_; clear hK K
          with_reducible refine wpQuiet_step (fun K hK => ?_); go_simp; with_reducible refine hK _ ?_; clear hK K
          with_reducible refine wpQuiet_step (fun K hK => ?_); go_simp; with_reducible refine hK _ ?_; clear hK K
          with_reducible refine wpQuiet_step (fun K hK => ?_); go_simp; with_reducible refine hK _ ?_; clear hK K
          with_reducible refine wpQuiet_step (fun K hK => ?_); go_simp; with_reducible refine hK _ ?_; clear hK K
          quiet_step (first | (go_at_call 43; refine grown_met (HL.out _)))
          with_reducible refine wpQuiet_step (fun K hK => ?_); go_simp; with_reducible refine hK _ ?_; clear hK K
          refine wpQuiet_nil ?_
          rintro _ ⟨⟨nq, osq⟩, rfl⟩
          cases dd with
          | true =>
            rw [step_takes HOF.out HT.out] at HGO
            go_wp2
            go_roundg (n - (k + 1))
            case measure => have := HG.out; omega
            case rel => exact ⟨k + 1, some (k, ⟨m1', m2', m3'⟩), by omega, rfl, by go_num, rfl, HROUND.out _ (grew_on HB2.out h1 nq osq), HGO.out, fun x hx => by injection hx with hx; subst hx; exact HM.out⟩
          | false =>
            rw [step_stays HOF.out HT.out] at HGO
            go_wp2
            go_roundg (n - (k + 1))
            case measure => have := HG.out; omega
            case rel => exact ⟨k + 1, some (j, ⟨y1', y2', y3'⟩), by omega, rfl, by go_num, rfl, HROUND.out _ (grew_on HB2.out h1 nq osq), HGO.out, HBX.out⟩
    · have hltz : ¬ (k : Int) < (n : Int) := by omega
      have hfin : b = nextT (offB xs) l := by
        have := HBEST.out
        rwa [List.drop_of_length_le (by have := HN.out; omega)] at this
      have hbi : idxI b = idxI (nextT (offB xs) l) := by rw [hfin]
      generalize idxI b = bi at *
      have HBI := Lib.hid hbi
      clear hfin hbi
      go_wp2
      go_ret
      exact ⟨by rw [← HBI.out]; rfl, HB.out⟩
theorem next_nil (W : World) (ov : Value) : Calls Try.prog 30 #[.pointer none, ov] W (RetB (.int .i64 (-1)) W) := by
  go_enter Try.func30, Try.ntmps30
  go_wp2
  go_ret
  exact ⟨rfl, Below.refl _ W⟩
end Go.Proofs.Ytngfcgegondmgaa
