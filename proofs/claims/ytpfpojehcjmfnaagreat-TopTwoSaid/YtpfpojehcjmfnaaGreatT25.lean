/-
  Tables: whose window each tick is, and where tables lie.
  Conditions: none.
-/
import Derived.Test.YtpfpojehcjmfnaaGreatT24
import Derived.Test.YtpfpojehcjmfnaaGreatT05
import Derived.Test.YtpfpojehcjmfnaaGreatT23
import Derived.Lib.SliceRun
import Derived.Test.YtpfpojehcjmfnaaGreatT22
import Derived.Test.YtpfpojehcjmfnaaGreatT02
import Derived.Test.YtpfpojehcjmfnaaGreatT03

/-
  Who is next: next.
  Conditions: the local lies in memory; the slice reads as ints.
-/
set_option linter.unusedVariables false
namespace Go.Proofs.YtpfpojehcjmfnaaGreat
open Go.RowKit Go.Sort

def idxI : Option (Nat × Lm) → Int
  | none => -1
  | some b => (b.1 : Int)
def offB (xs : List Int) (u : Nat) : Bool := hasI xs (u : Int)

set_option maxRecDepth 100000 in
set_option maxHeartbeats 1000000 in
theorem next_any (W : World) (rb : Nat) (mv : Value) (l : List Lm) (ov : Value) (xs : List Int) (h : LocAt W rb mv l) (ho : OkL 1000000 l) (hx : IntsM W ov xs) :
    Calls Tryz.prog 66 #[.pointer (some ⟨rb, 0, none⟩), ov] W (RetB (.int .i64 (idxI (nextT (offB xs) l))) W) := by
  have HR := Lib.hid h
  have HF := Lib.hid ho
  have HX := Lib.hid hx
  have hlen := ho.len
  obtain ⟨c1, _⟩ := h.heads
  have hrl := h.lt
  obtain ⟨A, c, rfl⟩ := h.form
  obtain ⟨OA, oc, rfl⟩ := hx.form
  generalize hon : xs.length = on at *
  generalize hn : l.length = n at *
  have HN := Lib.hid hn
  clear h ho hx hn hon
  have mixed : Tryz.prog.follows .mixedOrders = true := by kernel_rfl
  go_enter Tryz.func66, Tryz.ntmps66
  go_wp2_with fail
  go_loopg [5, 6, 7, 15] n (fun gg s5 _ _ s15 wr => ∃ (k : Nat) (b : Option (Nat × Lm)), k ≤ n ∧ gg = n - k ∧ s15 = .int .i64 k ∧ s5 = .int .i64 (idxI b) ∧ Below W.heap.size W wr ∧ nextGo (offB xs) k b (l.drop k) = nextT (offB xs) l ∧ ∀ x, b = some x → l[x.1]? = some x.2)
  case atStart => exact ⟨0, none, Nat.zero_le _, by omega, rfl, rfl, Below.refl _ W, rfl, fun x hx => by cases hx⟩
  case round =>
    obtain ⟨k, b, hk, hg, rfl, rfl, hbw, hbest, hbx⟩ := hrel
    have HB := Lib.hid hbw
    have HBEST := Lib.hid hbest
    have HBX := Lib.hid hbx
    have HG := Lib.hid hg
    clear hbest hbx hg
    by_cases hlt : k < n
    · have hltz : (k : Int) < (n : Int) := by omega
      obtain ⟨m, hm⟩ := ex_at (xs := l) (k := k) (by rw [HN.out]; exact hlt)
      obtain ⟨g, cap, hA, hgl, _, _, _, hat, _⟩ := HR.out.at_ hm
      have e1 : A = some ⟨g, 0, none⟩ := by injection hA
      clear hA
      subst e1
      have hgl2 : g < wr.heap.size := Nat.lt_of_lt_of_le hgl hbw.size
      have hrl2 : rb < wr.heap.size := Nat.lt_of_lt_of_le hrl hbw.size
      obtain ⟨m0, m1, m2⟩ := hat.keep (hbw.block g hgl)
      have c1' := (hbw.cell (p := ⟨rb, 0, none⟩) hrl).trans c1
      have f1 := HF.out.got m (List.mem_of_getElem? hm)
      have f2 := HF.out.share m (List.mem_of_getElem? hm)
      have f3 := HF.out.s64 (List.mem_of_getElem? hm)
      have HROUND : Hid (∀ w2, Below wr.heap.size wr w2 → Below W.heap.size W w2) := fun w2 h2 => HB.out.trans (h2.mono HB.out.size)
      have HW1 : Hid (∀ P, wr.heap.size = P → ∀ w1, w1 = wr.alloc (.cells #[.int .i64 m.u, .int .i64 m.s, .int .i64 m.g] 100) → P < w1.heap.size ∧ Below wr.heap.size wr w1 ∧ w1.cell? ⟨P, 0, none⟩ = some (.int .i64 m.u) ∧ w1.cell? ⟨P, 1, none⟩ = some (.int .i64 m.s) ∧ w1.cell? ⟨P, 2, none⟩ = some (.int .i64 m.g)) := by
        rintro P rfl w1 rfl
        exact ⟨by simp, (Below.refl _ wr).alloc (Nat.le_refl _) _, World.cell?_alloc_new (w := wr) _ _ 0, World.cell?_alloc_new (w := wr) _ _ 1, World.cell?_alloc_new (w := wr) _ _ 2⟩
      have HGO := Lib.hid (next_step hm HBEST.out)
      have HM := Lib.hid hm
      have HCON : Hid (∀ w1, Below wr.heap.size wr w1 → Calls Tryz.prog 111 #[.slice OA on oc, .int .i64 m.u] w1 (Ret (.bool (offB xs m.u)) w1)) := fun w1 h1 => contains_ints _ xs _ w1 ((HX.out.keep HB.out).keep h1)
      cases hof : offB xs m.u with
      | true =>
        rw [step_off hof] at HGO
        rw [hof] at HCON
        clear hat hbw hm f1 f2 f3 c1 c1'
        obtain ⟨m1', m2', m3'⟩ := m
        simp only at m0 m1 m2 hof HW1 HCON
        obtain ⟨bi, hbi⟩ : ∃ bi, idxI b = bi := ⟨_, rfl⟩
        rw [hbi]
        have HBI := Lib.hid hbi
        clear hbi
        go_wp2_with fail
        obtain ⟨h1, h2, q0, q1, q2⟩ := HW1.out _ rfl _ rfl
        have HB2 := Lib.hid h2
        refine (HCON.out _ h2).mono ?_
        rintro e w' ⟨rfl, rfl⟩
        generalize hw1 : wr.alloc (Obj.cells #[Value.int .i64 m1', Value.int .i64 m2', .int .i64 m3'] 100) = w1 at *
        go_wp2
        go_roundg (n - (k + 1))
        case measure => have := HG.out; omega
        case rel => exact ⟨k + 1, b, by omega, rfl, by go_num, (by rw [HBI.out]), HROUND.out _ HB2.out, HGO.out, HBX.out⟩
      | false =>
        rw [hof] at HCON
        cases b with
        | none =>
          rw [step_takes hof rfl] at HGO
          clear hat hbw f1 f2 f3 c1 c1'
          obtain ⟨m1', m2', m3'⟩ := m
          simp only at m0 m1 m2 hof HW1 HCON
          have hbi : idxI none = -1 := rfl
          rw [hbi]
          clear hbi hm
          go_wp2_with fail
          obtain ⟨h1, h2, q0, q1, q2⟩ := HW1.out _ rfl _ rfl
          have HB2 := Lib.hid h2
          refine (HCON.out _ h2).mono ?_
          rintro e w' ⟨rfl, rfl⟩
          generalize hw1 : wr.alloc (Obj.cells #[Value.int .i64 m1', Value.int .i64 m2', .int .i64 m3'] 100) = w1 at *
          generalize hP : wr.heap.size = P at *
          clear hw1 q0 q1 q2 h2
          go_wp2_with fail
          refine wp_region_quiet_grown mixed (by kernel_rfl) ?_
          with_reducible refine wpQuiet_step (fun K hK => ?_); go_simp; with_reducible refine hK _ ?_; clear hK K
          with_reducible refine wpQuiet_step (fun K hK => ?_); go_simp; with_reducible refine hK _ ?_; clear hK K
          with_reducible refine wpQuiet_step (fun K hK => ?_); go_simp; with_reducible refine hK _ ?_; clear hK K
          with_reducible refine wpQuiet_step (fun K hK => ?_); with_reducible refine struck_if (by kernel_rfl) ?_; go_simp; with_reducible refine hK _ ?_; clear hK K
          with_reducible refine wpQuiet_step (fun K hK => ?_); with_reducible refine struck_if (by kernel_rfl) ?_; go_simp; with_reducible refine hK _ ?_; clear hK K
          with_reducible refine wpQuiet_step (fun K hK => ?_); with_reducible refine struck_if (by kernel_rfl) ?_; go_simp; with_reducible refine hK _ ?_; clear hK K
          with_reducible refine wpQuiet_step (fun K hK => ?_); with_reducible refine struck_if (by kernel_rfl) ?_; go_simp; with_reducible refine hK _ ?_; clear hK K
          with_reducible refine wpQuiet_step (fun K hK => ?_); with_reducible refine struck_if (by kernel_rfl) ?_; go_simp; with_reducible refine hK _ ?_; clear hK K
          with_reducible refine wpQuiet_step (fun K hK => ?_); with_reducible refine struck_if (by kernel_rfl) ?_; go_simp; with_reducible refine hK _ ?_; clear hK K
          with_reducible refine wpQuiet_step (fun K hK => ?_); with_reducible refine struck_if (by kernel_rfl) ?_; go_simp; with_reducible refine hK _ ?_; clear hK K
          with_reducible refine wpQuiet_step (fun K hK => ?_); with_reducible refine struck_if (by kernel_rfl) ?_; go_simp; with_reducible refine hK _ ?_; clear hK K
          with_reducible refine wpQuiet_step (fun K hK => ?_); with_reducible refine struck_if (by kernel_rfl) ?_; go_simp; with_reducible refine hK _ ?_; clear hK K
          with_reducible refine wpQuiet_step (fun K hK => ?_); go_simp; with_reducible refine hK _ ?_; clear hK K
          refine wpQuiet_nil ?_
          rintro _ ⟨⟨nq, osq⟩, rfl⟩
          go_wp2
          go_roundg (n - (k + 1))
          case measure => have := HG.out; omega
          case rel => exact ⟨k + 1, some (k, ⟨m1', m2', m3'⟩), by omega, rfl, by go_num, rfl, HROUND.out _ (grew_on HB2.out h1 nq osq), HGO.out, fun x hx => by injection hx with hx; subst hx; exact HM.out⟩
        | some x =>
          obtain ⟨j, x⟩ := x
          have hxl : l[j]? = some x := HBX.out _ rfl
          have hjn : j < n := by have := (List.getElem?_eq_some_iff.1 hxl).1; have := HN.out; omega
          have hjz : (j : Int) < (n : Int) := by omega
          have k1 := HF.out.got x (List.mem_of_getElem? hxl)
          have k2 := HF.out.share x (List.mem_of_getElem? hxl)
          have k3 := HF.out.s64 (List.mem_of_getElem? hxl)
          obtain ⟨g', cap', hA', _, _, _, _, hat', _⟩ := HR.out.at_ hxl
          have e2 : g' = g := by injection hA' with hA' _ _; injection hA' with hA'; injection hA' with hA' _; exact hA'.symm
          clear hA'
          subst e2
          obtain ⟨x0, x1, x2⟩ := hat'.keep (hbw.block g' hgl)
          obtain ⟨dd, hdd⟩ : ∃ dd, decide ((m.g + 1) * x.s < (x.g + 1) * m.s) = dd := ⟨_, rfl⟩
          have HL : Hid (∀ W, Calls Tryz.prog 112 #[mbA m, mbA x] W (RetG (.bool dd) W)) := fun W => by
            rw [← hdd]
            exact before_any m x f1 k1 f2 f3 k2 k3 W
          have HT : Hid (takesL m (some (j, x)) = dd) := hdd
          have HOF := Lib.hid hof
          have hbi : idxI (some (j, x)) = (j : Int) := rfl
          rw [hbi]
          unfold mbA at HL
          clear hat hbw hm f1 f2 f3 hbi hat' k1 k2 k3 hdd hxl c1
          obtain ⟨m1', m2', m3'⟩ := m
          obtain ⟨y1', y2', y3'⟩ := x
          simp only at m0 m1 m2 hof HW1 HCON HL x0 x1 x2
          go_wp2_with fail
          obtain ⟨h1, h2, q0, q1, q2⟩ := HW1.out _ rfl _ rfl
          have HB2 := Lib.hid h2
          refine (HCON.out _ h2).mono ?_
          rintro e w' ⟨rfl, rfl⟩
          generalize hw1 : wr.alloc (Obj.cells #[Value.int .i64 m1', Value.int .i64 m2', .int .i64 m3'] 100) = w1 at *
          generalize hP : wr.heap.size = P at *
          have a0 := cell_grown h1 q0
          have a1 := cell_grown h1 q1
          have a2 := cell_grown h1 q2
          have b0 := cell_grown (w := w1) (by show g' < _; omega) ((h2.cell (p := ⟨g', j * 3, none⟩) hgl2).trans x0)
          have b1 := cell_grown (w := w1) (by show g' < _; omega) ((h2.cell (p := ⟨g', j * 3 + 1, none⟩) hgl2).trans x1)
          have b2 := cell_grown (w := w1) (by show g' < _; omega) ((h2.cell (p := ⟨g', j * 3 + 2, none⟩) hgl2).trans x2)
          have r1 := cell_grown (w := w1) (by show rb < _; omega) ((h2.cell (p := ⟨rb, 0, none⟩) hrl2).trans c1')
          clear hw1 q0 q1 q2 h2 m0 m1 m2 x0 x1 x2 c1'
          have hjz2 : decide ((j : Int) < 0) = false := decide_eq_false (by omega)
          go_wp2_with fail
          refine wp_region_quiet_grown mixed (by kernel_rfl) ?_
          with_reducible refine wpQuiet_step (fun K hK => ?_); go_simp; with_reducible refine hK _ ?_; clear hK K
          with_reducible refine wpQuiet_step (fun K hK => ?_); go_simp; with_reducible refine hK _ ?_; clear hK K
          with_reducible refine wpQuiet_step (fun K hK => ?_); go_simp; with_reducible refine hK _ ?_; clear hK K
          with_reducible refine wpQuiet_step (fun K hK => ?_); go_simp; with_reducible refine hK _ ?_; clear hK K
          with_reducible refine wpQuiet_step (fun K hK => ?_); go_simp; with_reducible refine hK _ ?_; clear hK K
          with_reducible refine wpQuiet_step (fun K hK => ?_); go_simp; with_reducible refine hK _ ?_; clear hK K
          with_reducible refine wpQuiet_step (fun K hK => ?_); go_simp; with_reducible refine hK _ ?_; clear hK K
          with_reducible refine wpQuiet_step (fun K hK => ?_); go_simp; with_reducible refine hK _ ?_; clear hK K
          with_reducible refine wpQuiet_step (fun K hK => ?_); go_simp; with_reducible refine hK _ ?_; clear hK K
          with_reducible refine wpQuiet_step (fun K hK => ?_); go_simp; with_reducible refine hK _ ?_; clear hK K
          with_reducible refine wpQuiet_step (fun K hK => ?_); go_simp; with_reducible refine hK _ ?_; clear hK K
          quiet_step (first | (go_at_call 112; refine grown_met (HL.out _)))
          with_reducible refine wpQuiet_step (fun K hK => ?_); go_simp; with_reducible refine hK _ ?_; clear hK K
          refine wpQuiet_nil ?_
          rintro _ ⟨⟨nq, osq⟩, rfl⟩
          cases dd with
          | true =>
            rw [step_takes HOF.out HT.out] at HGO
            go_wp2
            go_roundg (n - (k + 1))
            case measure => have := HG.out; omega
            case rel => exact ⟨k + 1, some (k, ⟨m1', m2', m3'⟩), by omega, rfl, by go_num, rfl, HROUND.out _ (grew_on HB2.out h1 nq osq), HGO.out, fun x hx => by injection hx with hx; subst hx; exact HM.out⟩
          | false =>
            rw [step_stays HOF.out HT.out] at HGO
            go_wp2
            go_roundg (n - (k + 1))
            case measure => have := HG.out; omega
            case rel => exact ⟨k + 1, some (j, ⟨y1', y2', y3'⟩), by omega, rfl, by go_num, rfl, HROUND.out _ (grew_on HB2.out h1 nq osq), HGO.out, HBX.out⟩
    · have hltz : ¬ (k : Int) < (n : Int) := by omega
      have hfin : b = nextT (offB xs) l := by
        have := HBEST.out
        rwa [List.drop_of_length_le (by have := HN.out; omega)] at this
      have hbi : idxI b = idxI (nextT (offB xs) l) := by rw [hfin]
      generalize idxI b = bi at *
      have HBI := Lib.hid hbi
      clear hfin hbi
      go_wp2
      go_ret
      exact ⟨by rw [← HBI.out]; rfl, HB.out⟩
end Go.Proofs.YtpfpojehcjmfnaaGreat

/-
  slices.Delete of one member: a row of members of the caller's own.
  Conditions: the row is of the caller's own.
-/
set_option linter.unusedVariables false
namespace Go.Proofs.YtpfpojehcjmfnaaGreat
open Go.RowKit Go.Proofs

def cutAt (l : List Lm) (k : Nat) : List Lm := l.take k ++ l.drop (k + 1)
/-- What a call answers that changes a row of its caller's. -/
def RetM (base e : Nat) (v : Value) (l : List Lm) (w : World) (en : Ending) (w' : World) : Prop := ∃ v', en = .returned v' ∧ w'.ownsRow base e 3 v' l.length (rowC l) ∧ Apart (fun k => v.ownBlock = some k) w w' ∧ Grew w v v'
end Go.Proofs.YtpfpojehcjmfnaaGreat

/-
  Pick, Got, Begin, Drop of a local by contract.
  Conditions: the local lies in memory; its numbers are small.
-/
set_option linter.unusedVariables false
namespace Go.Proofs.YtpfpojehcjmfnaaGreat
open Go.RowKit Go.Sort

def pickV (o : Option (Nat × Lm)) : Value := .tuple #[.int .i64 (unitO o), .bool o.isSome]
set_option maxRecDepth 100000 in
theorem pick_any (W : World) (rb : Nat) (mv : Value) (l : List Lm) (ov : Value) (xs : List Int) (h : LocAt W rb mv l) (ho : OkL 1000000 l) (hx : IntsM W ov xs) :
    Calls Tryz.prog 33 #[.pointer (some ⟨rb, 0, none⟩), ov] W (MutPost W rb mv (pickV (nextT (offB xs) l)) (pickT (offB xs) l)) := by
  have HNX := Lib.hid (next_any W rb mv l ov xs h ho hx)
  have HR := Lib.hid h
  unfold pickT
  cases hb : nextT (offB xs) l with
  | none =>
    rw [hb] at HNX
    have HEND := Lib.hid (fun (e : Ending) (w' : World) (hb : Below W.heap.size W w') (he : e = .returned (.tuple #[.int .i64 0, .bool false])) => mut_below h hb he)
    have e : idxI none = -1 := rfl
    rw [e] at HNX
    clear h ho hx hb e
    go_enter Tryz.func33, Tryz.ntmps33
    go_wp2_with fail
    refine HNX.out.mono ?_
    rintro e w1 ⟨rfl, hb⟩
    have HB := Lib.hid hb
    clear hb
    go_wp2
    go_ret2
    exact HEND.out _ _ HB.out rfl
  | some b =>
    obtain ⟨k, m⟩ := b
    rw [hb] at HNX
    have e : idxI (some (k, m)) = (k : Int) := rfl
    rw [e] at HNX
    have hm := (next_some ho.share hb).at_
    have HM := Lib.hid hm
    have hkl := (List.getElem?_eq_some_iff.1 hm).1
    have hmb := ho.got m (List.mem_of_getElem? hm)
    obtain ⟨A, c, rfl⟩ := h.form
    obtain ⟨n, hn⟩ : ∃ n, l.length = n := ⟨_, rfl⟩
    rw [hn] at hkl HR h ⊢
    have hk1 : (k : Int) < (n : Int) := by omega
    have hk0 : (0 : Int) ≤ (k : Int) := by omega
    have hk2 : decide ((k : Int) < 0) = false := decide_eq_false (by omega)
    obtain ⟨x, hx⟩ : ∃ x, m.g + 1 = x := ⟨_, rfl⟩
    have hx2 : (m.g : Int) + 1 = (x : Int) := by omega
    have hx3 : (x : Int) ≤ 1000001 := by omega
    have HX := Lib.hid hx
    obtain ⟨L', hL'⟩ : ∃ L', pickO l (some (k, m)) = L' := ⟨_, rfl⟩
    have HL' : Hid (L' = l.set k { m with g := x }) := by rw [← hL', ← hx]; exact rfl
    have hv : pickV (some (k, m)) = .tuple #[.int .i64 m.u, .bool true] := rfl
    rw [hL', hv]
    clear h ho hx hb e hm hn hL' hv hkl
    obtain ⟨m1, m2, m3⟩ := m
    simp only at hx2 HX hmb HL' ⊢
    go_enter Tryz.func33, Tryz.ntmps33
    go_wp2_with fail
    refine HNX.out.mono ?_
    rintro e w1 ⟨rfl, hb⟩
    have HB := Lib.hid hb
    have HR1 := Lib.hid (HR.out.below hb)
    obtain ⟨c1, _⟩ := HR1.out.heads
    obtain ⟨g, cap, hA, _, _, _, _, ⟨a0, a1, a2⟩, hfr⟩ := HR1.out.at_ HM.out
    injection hA with hA hA1 hA2; clear hA1 hA2
    subst hA
    have b3 := hfr (k * 3 + 2)
    have HR2 : Hid (LocAt (w1.setCell ⟨g, k * 3 + 2, none⟩ (.int .i64 x)) rb (.slice (some ⟨g, 0, none⟩) n c) L') := by
      rw [HL'.out]
      exact HR1.out.setG HM.out x
    have HA2 : Hid (Apart (Foot rb (.slice (some ⟨g, 0, none⟩) n c)) W (w1.setCell ⟨g, k * 3 + 2, none⟩ (.int .i64 x))) := (Apart.of_below HB.out).set (p := ⟨g, k * 3 + 2, none⟩) (.inl (.inr rfl)) _
    have hm2 : L'[k]? = some ⟨m1, m2, x⟩ := by rw [HL'.out, List.getElem?_set_self (List.getElem?_eq_some_iff.1 HM.out).1]
    have HM2 := Lib.hid hm2
    clear hm2
    obtain ⟨g2, cap2, hA, _, _, _, _, ⟨d0, _, _⟩, _⟩ := HR2.out.at_ HM2.out
    injection hA with hA hA1 hA2; clear hA1 hA2
    injection hA with hA
    injection hA with hA
    subst hA
    obtain ⟨w2, hw2⟩ : ∃ w2, w1.setCell ⟨g, k * 3 + 2, none⟩ (.int .i64 x) = w2 := ⟨_, rfl⟩
    rw [hw2] at HR2 HA2 d0
    have HEND : Hid (∀ e w', w' = w2 → e = .returned (.tuple #[.int .i64 m1, .bool true]) → MutPost W rb (.slice (some ⟨g, 0, none⟩) n c) (.tuple #[.int .i64 m1, .bool true]) L' e w') := fun e w' h he => by
      rw [h]
      exact ⟨_, he, HR2.out, HA2.out, Grew.refl _ _⟩
    clear hfr hb a0 a1
    go_wp2
    go_ret2
    exact HEND.out _ _ rfl rfl
def gotN (l : List Lm) (u : Int) : Option Nat := (findT u l).bind fun k => (l[k]?).map fun m => m.g
def gotV (o : Option Nat) : Value := .tuple #[.int .i64 (o.getD 0 : Nat), .bool o.isSome]
theorem got_any (W : World) (rb : Nat) (mv : Value) (l : List Lm) (u : Int) (h : LocAt W rb mv l) (hl : l.length ≤ 1000) :
    Calls Tryz.prog 38 #[.pointer (some ⟨rb, 0, none⟩), .int .i64 u] W (RetB (gotV (gotN l u)) W) := by
  have HFI := Lib.hid (findM_any W rb mv l u h hl)
  have HR := Lib.hid h
  unfold gotN
  cases hb : findT u l with
  | none =>
    rw [hb] at HFI
    have e : idxO none = -1 := rfl
    rw [e] at HFI
    show Calls _ _ _ _ (RetB (.tuple #[.int .i64 0, .bool false]) W)
    clear h hb e
    go_enter Tryz.func38, Tryz.ntmps38
    go_wp2_with fail
    refine HFI.out.mono ?_
    rintro e w1 ⟨rfl, hb⟩
    have HB := Lib.hid hb
    clear hb
    go_wp2
    go_ret2
    exact ⟨rfl, HB.out⟩
  | some k =>
    rw [hb] at HFI
    have e : idxO (some k) = (k : Int) := rfl
    rw [e] at HFI
    obtain ⟨m, hm, _⟩ := find_some hb
    have HM := Lib.hid hm
    have hkl := (List.getElem?_eq_some_iff.1 hm).1
    have hv : gotV ((l[k]?).map fun (x : Lm) => x.g) = .tuple #[.int .i64 m.g, .bool true] := by
      rw [hm]
      rfl
    show Calls _ _ _ _ (RetB (gotV ((l[k]?).map fun (x : Lm) => x.g)) W)
    rw [hv]
    obtain ⟨A, c, rfl⟩ := h.form
    obtain ⟨n, hn⟩ : ∃ n, l.length = n := ⟨_, rfl⟩
    rw [hn] at hkl HR h
    have hk1 : (k : Int) < (n : Int) := by omega
    have hk0 : (0 : Int) ≤ (k : Int) := by omega
    have hk2 : decide ((k : Int) < 0) = false := decide_eq_false (by omega)
    clear h hb e hm hn hv hkl hl
    obtain ⟨m1, m2, m3⟩ := m
    simp only
    go_enter Tryz.func38, Tryz.ntmps38
    go_wp2_with fail
    refine HFI.out.mono ?_
    rintro e w1 ⟨rfl, hb⟩
    have HB := Lib.hid hb
    have HR1 := Lib.hid (HR.out.below hb)
    obtain ⟨c1, _⟩ := HR1.out.heads
    obtain ⟨g, cap, hA, _, _, _, _, ⟨a0, a1, a2⟩, hfr⟩ := HR1.out.at_ HM.out
    injection hA with hA hA1 hA2; clear hA1 hA2
    subst hA
    clear hb hfr a0 a1
    go_wp2
    go_ret2
    exact ⟨rfl, HB.out⟩
end Go.Proofs.YtpfpojehcjmfnaaGreat

/-
  The calls of a local that a call made itself; none of a nil one; literals.
  Conditions: its numbers are small.
-/
set_option linter.unusedVariables false
namespace Go.Proofs.YtpfpojehcjmfnaaGreat
open Go.RowKit

theorem Held.lies {base : Nat} {W : World} {rb : Nat} {l : List Lm} (h : Held base W rb l) : base ≤ W.heap.size ∧ rb < W.heap.size := by
  obtain ⟨mv, h1, h2⟩ := h
  have := h2 rb (.inl rfl)
  have := h1.lt
  exact ⟨by omega, this⟩
/-- What a call that changes it answers. -/
def HeldPost (base : Nat) (v : Value) (rb : Nat) (l : List Lm) (W : World) (e : Ending) (w' : World) : Prop := e = .returned v ∧ Held base w' rb l ∧ Below base W w'
theorem Held.pick {G base : Nat} {W : World} {rb : Nat} {l : List Lm} {ov : Value} {xs : List Int} (h : Held base W rb l) (ho : OkL G l) (hG : G ≤ 1000000) (hx : IntsM W ov xs) :
    Calls Tryz.prog 33 #[.pointer (some ⟨rb, 0, none⟩), ov] W (HeldPost base (pickV (nextT (offB xs) l)) rb (pickT (offB xs) l) W) := by
  have hb := h.lies.1
  obtain ⟨mv, h1, h2⟩ := h
  exact (pick_any W rb mv l ov xs h1 (ho.mono hG) hx).mono fun e w' hm => Held.mut (l := l) hb h2 hm
end Go.Proofs.YtpfpojehcjmfnaaGreat

/-
  Arguments; the document's Check; made; what picks leave.
  Conditions: the slice reads as wants of ints.
-/
set_option linter.unusedVariables false
namespace Go.Proofs.YtpfpojehcjmfnaaGreat
open Go.RowKit

theorem wants_pick (off : Nat → Bool) {l : List Lm} (hp : ∀ m ∈ l, 0 < m.s) : wantsM (pickT off l) = wantsM l := by
  unfold pickT
  cases hn : nextT off l with
  | none => rfl
  | some b =>
    have hb := (next_some hp hn).at_
    show wantsM (l.set b.1 (more b.2)) = wantsM l
    unfold wantsM
    rw [List.map_set]
    refine set_self ?_
    rw [List.getElem?_map, hb]
    rfl
theorem begin_new (ps : List Sp) : beginT (newT ps) = newT ps := by
  have hz : ∀ m ∈ newT ps, m.g = 0 := fun m hm => by
    obtain ⟨p, _, rfl⟩ := List.mem_map.1 ((newT_perm ps).mem_iff.1 hm)
    rfl
  have : ∀ l : List Lm, (∀ m ∈ l, m.g = 0) → beginT l = l := fun l h => by
    induction l with
    | nil => rfl
    | cons m l ih =>
      show { m with g := 0 } :: beginT l = m :: l
      rw [ih fun x hx => h x (List.mem_cons_of_mem _ hx)]
      have := h m List.mem_cons_self
      obtain ⟨u, s, g⟩ := m
      simp only at this
      rw [this]
  exact this _ hz
theorem new_wants {f : Int} {ps : List Sp} (h : newE f ps = 0) {p : Sp} (hp : p ∈ ps) : p ∈ wantsM (newT ps) := by
  obtain ⟨k, m, h1, h2, h3⟩ := new_mem h hp
  exact List.mem_map.2 ⟨m, List.mem_of_getElem? h1, Prod.ext h2 h3⟩
theorem gotN_mem {G : Nat} {l : List Lm} (h : OkL G l) {m : Lm} (hm : m ∈ l) : gotN l (m.u : Int) = some m.g := by
  obtain ⟨k, hk, e⟩ := List.getElem_of_mem hm
  have hk' : l[k]? = some m := by rw [List.getElem?_eq_getElem hk, e]
  unfold gotN
  rw [find_at h.rise hk']
  show (l[k]?).map _ = _
  rw [hk']
  rfl
theorem at_want {l L : List Lm} (hw : wantsM l = wantsM L) {p : Sp} (hp : p ∈ wantsM L) : ∃ m ∈ l, ((m.u : Int), (m.s : Int)) = p := by
  rw [← hw] at hp
  exact List.mem_map.1 hp
theorem sumS_wants : ∀ {a b : List Lm}, wantsM a = wantsM b → sumM a = sumM b
  | [], [], _ => rfl
  | [], y :: b, h => by cases h
  | x :: a, [], h => by cases h
  | x :: a, y :: b, h => by
    have h1 : ((x.u : Int), (x.s : Int)) = ((y.u : Int), (y.s : Int)) := (List.cons.inj h).1
    have h2 : wantsM a = wantsM b := (List.cons.inj h).2
    have h3 : (x.s : Int) = (y.s : Int) := congrArg Prod.snd h1
    show x.s + sumM a = y.s + sumM b
    rw [sumS_wants h2]
    omega
theorem off_none : offB [] = fun _ => false := rfl

end Go.Proofs.YtpfpojehcjmfnaaGreat

/-
  A ring, a local and a row of numbers beside each other: what a call of one leaves of the others, told by the types of blocks.
  Conditions: their numbers are small.
-/
set_option linter.unusedVariables false
namespace Go.Proofs.YtpfpojehcjmfnaaGreat
open Go.RowKit

/-- Blocks of other types are as they were. -/
def KeepT (p : Nat → Prop) (W w' : World) : Prop := ∀ (k : Nat) (cs : Array Value) (T : Nat), W.heap[k]? = some (.cells cs T (0, 0)) → ¬ p T → w'.heap[k]? = W.heap[k]?
theorem KeepT.below {p : Nat → Prop} {W w' : World} (h : Below W.heap.size W w') : KeepT p W w' := fun k cs T hk _ => h.block k (heap_lt hk)
def tyL (T : Nat) : Prop := T = 105 ∨ T = 100
def tyR (T : Nat) : Prop := T = 115 ∨ T = 124
def tyG (T : Nat) : Prop := T = 3
/-- A row stays where blocks of its kind do. -/
theorem own_keepT {p : Nat → Prop} {W w' : World} {base e size n : Nat} {v : Value} {xs : List Value} (h : W.ownsRow base e size v n xs) (hk : KeepT p W w') (h1 : ¬ p e) : w'.ownsRow base e size v n xs := by
  refine own_keep h fun k hb => ?_
  rcases h.2 with ⟨h3, _⟩ | ⟨g, cap, cur, h3, _, hh, _⟩
  · subst h3; cases hb
  · subst h3
    cases hb
    exact hk _ _ _ hh h1
theorem own_type {W : World} {base e size n : Nat} {v : Value} {xs : List Value} (h : W.ownsRow base e size v n xs) {k : Nat} (hb : v.ownBlock = some k) : ∃ cs, W.heap[k]? = some (.cells cs e (0, 0)) := by
  rcases h.2 with ⟨h3, _⟩ | ⟨g, cap, cur, h3, _, hh, _⟩
  · subst h3; cases hb
  · subst h3
    cases hb
    exact ⟨_, hh⟩
theorem apart_keepT {p F : Nat → Prop} {W w' : World} (h : Apart F W w') (hF : ∀ k, F k → ∃ cs T, W.heap[k]? = some (.cells cs T (0, 0)) ∧ p T) : KeepT p W w' := fun k cs T hk hp => by
  refine h.block k (heap_lt hk) fun hf => ?_
  obtain ⟨cs', T', h1, h2⟩ := hF k hf
  rw [hk] at h1
  injection h1 with h1
  injection h1 with _ h1 _
  subst h1
  exact hp h2

theorem LocAt.types {W : World} {rb : Nat} {mv : Value} {l : List Lm} (h : LocAt W rb mv l) : ∀ k, Foot rb mv k → ∃ cs T, W.heap[k]? = some (.cells cs T (0, 0)) ∧ tyL T := fun k hk => by
  rcases hk with rfl | hk
  · exact ⟨_, _, h.head, .inl rfl⟩
  · obtain ⟨cs, hc⟩ := own_type h.row hk
    exact ⟨cs, _, hc, .inr rfl⟩
theorem LocAt.keepT {p : Nat → Prop} {W w' : World} {rb : Nat} {mv : Value} {l : List Lm} (h : LocAt W rb mv l) (hk : KeepT p W w') (h1 : ∀ T, tyL T → ¬ p T) : LocAt w' rb mv l :=
  ⟨(hk _ _ _ h.head (h1 _ (.inl rfl))).trans h.head, own_keepT h.row hk (h1 _ (.inr rfl)), h.ne⟩
theorem Held.keepT {p : Nat → Prop} {base : Nat} {W w' : World} {rb : Nat} {l : List Lm} (h : Held base W rb l) (hk : KeepT p W w') (h1 : ∀ T, tyL T → ¬ p T) : Held base w' rb l := by
  obtain ⟨mv, a, b⟩ := h
  exact ⟨mv, a.keepT hk h1, b⟩
def PostL (base : Nat) (v : Value) (rb : Nat) (l : List Lm) (W : World) (e : Ending) (w' : World) : Prop := e = .returned v ∧ Held base w' rb l ∧ Below base W w' ∧ KeepT tyL W w'
theorem Held.pickL {G base : Nat} {W : World} {rb : Nat} {l : List Lm} {ov : Value} {xs : List Int} (h : Held base W rb l) (ho : OkL G l) (hG : G ≤ 1000000) (hx : IntsM W ov xs) :
    Calls Tryz.prog 33 #[.pointer (some ⟨rb, 0, none⟩), ov] W (PostL base (pickV (nextT (offB xs) l)) rb (pickT (offB xs) l) W) := by
  have hb := h.lies.1
  obtain ⟨mv, h1, h2⟩ := h
  exact (pick_any W rb mv l ov xs h1 (ho.mono hG) hx).mono fun e w' hm => by
    obtain ⟨k1, k2, k3⟩ := Held.mut (l := l) hb h2 hm
    obtain ⟨_, _, _, hap, _⟩ := hm
    exact ⟨k1, k2, k3, apart_keepT hap h1.types⟩
theorem Held.gotL {base : Nat} {W : World} {rb : Nat} {l : List Lm} (u : Int) (h : Held base W rb l) (hl : l.length ≤ 1000) :
    Calls Tryz.prog 38 #[.pointer (some ⟨rb, 0, none⟩), .int .i64 u] W (RetB (gotV (gotN l u)) W) := by
  obtain ⟨mv, h1, h2⟩ := id h
  exact got_any W rb mv l u h1 hl
theorem Held.totalL {G base : Nat} {W : World} {rb : Nat} {l : List Lm} (h : Held base W rb l) (ho : OkL G l) :
    Calls Tryz.prog 36 #[.pointer (some ⟨rb, 0, none⟩)] W (RetB (.int .i64 (sumM l : Nat)) W) := by
  obtain ⟨mv, h1, h2⟩ := id h
  exact total_loc W rb mv l h1 ho

def HeldR (base : Nat) (W : World) (rb : Nat) (s : Rn.Rg) : Prop := ∃ mv, Rn.RingAt W rb mv s ∧ ∀ k, Rn.Foot rb mv k → base ≤ k
theorem RingAt.types {W : World} {rb : Nat} {mv : Value} {s : Rn.Rg} (h : Rn.RingAt W rb mv s) : ∀ k, Rn.Foot rb mv k → ∃ cs T, W.heap[k]? = some (.cells cs T (0, 0)) ∧ tyR T := fun k hk => by
  rcases hk with rfl | hk
  · exact ⟨_, _, h.head, .inl rfl⟩
  · obtain ⟨cs, hc⟩ := own_type h.row hk
    exact ⟨cs, _, hc, .inr rfl⟩
theorem HeldR.keepT {p : Nat → Prop} {base : Nat} {W w' : World} {rb : Nat} {s : Rn.Rg} (h : HeldR base W rb s) (hk : KeepT p W w') (h1 : ∀ T, tyR T → ¬ p T) : HeldR base w' rb s := by
  obtain ⟨mv, a, b⟩ := h
  exact ⟨mv, ⟨(hk _ _ _ a.head (h1 _ (.inl rfl))).trans a.head, own_keepT a.row hk (h1 _ (.inr rfl)), a.ne⟩, b⟩
theorem HeldR.lies {base : Nat} {W : World} {rb : Nat} {s : Rn.Rg} (h : HeldR base W rb s) : base ≤ W.heap.size ∧ rb < W.heap.size := by
  obtain ⟨mv, a, b⟩ := h
  have := b rb (.inl rfl)
  have := a.lt
  exact ⟨by omega, this⟩
def PostR (base : Nat) (v : Value) (rb : Nat) (s : Rn.Rg) (W : World) (e : Ending) (w' : World) : Prop := e = .returned v ∧ HeldR base w' rb s ∧ Below base W w' ∧ KeepT tyR W w'
theorem HeldR.mut {base : Nat} {W w' : World} {rb : Nat} {s s' : Rn.Rg} {mv v : Value} {e : Ending} (hb : base ≤ W.heap.size) (h1 : Rn.RingAt W rb mv s) (hl : ∀ k, Rn.Foot rb mv k → base ≤ k) (h : Rn.MutPost W rb mv v s' e w') : PostR base v rb s' W e w' := by
  obtain ⟨mv', e1, h2, ha, hg⟩ := h
  refine ⟨e1, ⟨mv', h2, fun k hk => ?_⟩, ⟨ha.os, ha.tape, ha.output, ha.size, fun k hk => ha.block k (Nat.lt_of_lt_of_le hk hb) fun hf => ?_⟩, apart_keepT ha (RingAt.types h1)⟩
  · rcases hk with rfl | hk
    · exact hl _ (.inl rfl)
    · rcases hg k hk with e2 | e2
      · exact hl _ (.inr e2)
      · omega
  · have := hl k hf
    omega
theorem HeldR.joinR {base : Nat} {W : World} {rb : Nat} {s : Rn.Rg} (id w : Int) (h : HeldR base W rb s) (hk : Rn.Okay s) :
    Calls Tryz.prog 35 #[.pointer (some ⟨rb, 0, none⟩), .int .i64 id, .int .i64 w] W (PostR base (.int .i64 (Rn.joinA s id w).1) rb (Rn.joinA s id w).2 W) := by
  have hb := h.lies.1
  obtain ⟨mv, h1, h2⟩ := h
  exact (Rn.join_any W rb mv s id w h1 hk).mono fun e w' hm => HeldR.mut hb h1 h2 hm
theorem HeldR.pickR {base : Nat} {W : World} {rb : Nat} {s : Rn.Rg} (h : HeldR base W rb s) (hk : Rn.Okay s) :
    Calls Tryz.prog 37 #[.pointer (some ⟨rb, 0, none⟩)] W (PostR base (Rn.pickV s) rb (Rn.pickA s).2 W) := by
  have hb := h.lies.1
  obtain ⟨mv, h1, h2⟩ := h
  exact (Rn.pick_any W rb mv s h1 hk).mono fun e w' hm => HeldR.mut hb h1 h2 hm
theorem HeldR.new {W w' : World} {L : Nat} {e : Ending} (h : Rn.NewPost W L e w') : e = .returned (.tuple #[.pointer (some ⟨W.heap.size, 0, none⟩), .int .i64 0]) ∧ HeldR W.heap.size w' W.heap.size (Rn.newR L) ∧ Below W.heap.size W w' := by
  obtain ⟨h1, h2, h3⟩ := h
  refine ⟨h1, ⟨_, h2, fun k hk => ?_⟩, h3⟩
  rcases hk with rfl | hk
  · exact Nat.le_refl _
  · cases hk

theorem RowAt.keepT {p : Nat → Prop} {W w' : World} {g : Nat} {xs : List Int} (h : RowAt W g xs) (hk : KeepT p W w') (h1 : ¬ p 3) : RowAt w' g xs := (hk _ _ _ h h1).trans h
theorem RowAt.setT {W : World} {g : Nat} {xs : List Int} (h : RowAt W g xs) (j : Nat) (x : Int) : KeepT tyG W (W.setCell ⟨g, j, none⟩ (.int .i64 x)) := fun k cs T hk hp => by
  refine Below.heap_setCell _ _ _ _ fun e => ?_
  have e' : k = g := e
  subst e'
  have h' : W.heap[k]? = some (.cells (rowOf xs) 3 (0, 0)) := h
  rw [hk] at h'
  injection h' with h'
  injection h' with _ h' _
  exact hp h'
theorem tyL_R : ∀ T, tyL T → ¬ tyR T := fun T h k => by rcases h with rfl | rfl <;> rcases k with h | h <;> exact absurd h (by decide)
theorem tyL_G : ∀ T, tyL T → ¬ tyG T := fun T h k => by unfold tyG at k; rcases h with rfl | rfl <;> exact absurd k (by decide)
theorem tyR_L : ∀ T, tyR T → ¬ tyL T := fun T h k => tyL_R T k h
theorem tyR_G : ∀ T, tyR T → ¬ tyG T := fun T h k => by unfold tyG at k; rcases h with rfl | rfl <;> exact absurd k (by decide)
theorem tyG_L : ¬ tyL 3 := fun h => tyL_G _ h rfl
theorem tyG_R : ¬ tyR 3 := fun h => tyR_G _ h rfl
end Go.Proofs.YtpfpojehcjmfnaaGreat

/-
  Wholes of program and document once more: what they answer lies in memory of the call's own.
  Conditions: the slice reads as places.
-/
set_option linter.unusedVariables false
namespace Go.Proofs.YtpfpojehcjmfnaaGreat
open Go.RowKit Go.Sort

/-- A slice, if it is not empty, lies in a block of F. -/
def InB (F : Nat → Prop) (n : Nat) (v : Value) : Prop := 0 < n → ∀ b, v.ownBlock = some b → F b
/-- What a call answers: these wants, in memory of its own. -/
def RetWh (ps : List Sp) (w : World) (e : Ending) (w' : World) : Prop := ∃ v, e = .returned v ∧ SpansAt w' v ps ∧ InB (fun b => w.heap.size ≤ b) ps.length v ∧ Below w.heap.size w w'

set_option maxRecDepth 100000 in
set_option maxHeartbeats 4000000 in
theorem wholes_own (f : Int) (m : Nat) (v : Value) (l : List Pl) (c : Int) (w : World) (h : PlsAt w v l) (hl : l.length ≤ 1000) :
    Calls Tryz.prog 58 #[planA f m v, .int .i64 c] w (RetWh (wholesT l c) w) := by
  obtain ⟨i0, hi, hz0, hz1, hz2⟩ := info_parts Tryz.infoSpan
  obtain ⟨A, cA, rfl, hlc, hcm⟩ := h.form
  have HL := Lib.hid h
  obtain ⟨w1, P, hw1, hP, hPl, hb1, hbox⟩ := box_any w #[.int .i64 f, .int .u32 m, .slice A l.length cA] 26
  obtain ⟨n, hn⟩ : ∃ n, l.length = n := ⟨_, rfl⟩
  rw [hn] at HL hlc hl hw1 hbox ⊢
  have HN := Lib.hid hn
  have HB1 := Lib.hid hb1
  have HBOX := Lib.hid hbox
  obtain ⟨r0, r1, r2⟩ := three_heads hbox
  clear h hn hb1 hbox
  unfold planA
  have HW := Lib.hid (fun v x w => wantOf_any v x w)
  have HI := Lib.hid (fun A n d x w => isWhole_any Any A n d x w)
  unfold plA at HW HI
  go_enter Tryz.func58, Tryz.ntmps58
  go_wp2_with fail
  clear hw1 hP r0 r1 r2
  go_loopg [5, 7, 11] n (fun gg s5 _ s11 wr => ∃ k : Nat, k ≤ n ∧ gg = n - k ∧ s11 = .int .i64 k ∧ Below w1.heap.size w1 wr ∧ RowW wr w1.heap.size s5 (wholesT (l.take k) c))
  case atStart => exact ⟨0, Nat.zero_le _, by omega, rfl, Below.refl _ _, World.ownsRow_nil _ _ _ _⟩
  case round =>
    obtain ⟨k, hk, hg, rfl, hbw, hown⟩ := hrel
    have HO := Lib.hid hown
    clear hown
    have HBW := Lib.hid hbw
    have HB := Lib.hid (HB1.out.trans (hbw.mono HB1.out.size))
    have HG := Lib.hid hg
    have hPl2 : P < wr.heap.size := Nat.lt_of_lt_of_le hPl hbw.size
    have HBX := Lib.hid ((hbw.block P hPl).trans HBOX.out)
    obtain ⟨r0, r1, r2⟩ := three_heads HBX.out
    have HLR := Lib.hid (HL.out.keep HB.out)
    clear hbw hg
    by_cases hlt : k < n
    · have hk0 : (0 : Int) ≤ (k : Int) := by omega
      have hltz : (k : Int) < (n : Int) := by omega
      obtain ⟨x, hx⟩ := exP_at (xs := l) (k := k) (by rw [HN.out]; exact hlt)
      obtain ⟨b, off, B, d, hA, hbl, _, ⟨c0, c1, c2, c3⟩, hps⟩ := HLR.out.at_ hx
      subst hA
      simp only at c0 c1 c2 c3
      have HX := Lib.hid hx
      have HPS := Lib.hid hps
      clear hx hps
      obtain ⟨w2, N, hw2, hN, hNl, hb2, hxbox⟩ := box_any wr #[.int .i64 x.u, .int .i64 x.s, .int .i64 x.c, .slice B x.ps.length d] 48
      have HB2 := Lib.hid hb2
      have HXB := Lib.hid hxbox
      obtain ⟨x0, x1, x2, x3⟩ := four_heads hxbox
      obtain ⟨p0, p1, p2⟩ := three_heads (keep_block HBX.out hb2)
      clear hb2 hxbox
      have HC := Lib.hid (fun w => HI.out B x.ps.length d x w)
      have HLE := Lib.hid (show (wholesT (l.take k) c).length ≤ 1000 from Nat.le_trans (wholes_le _ _) (by rw [List.length_take]; omega))
      generalize hR : wholesT (l.take k) c = R at *
      have HR := Lib.hid hR
      have HBS := Lib.hid (HBW.out.trans (HB2.out.mono HBW.out.size))
      have HO2 : Hid (RowW w2 w1.heap.size u5 R) := own_below5 HO.out HB2.out
      clear hR
      cases hz : decide (x.ps.length = 0) with
      | false =>
        rw [hz] at HC
        have HE := Lib.hid (wholes_no HX.out (show wholeB c x = false from (whole_dec hz rfl).trans rfl))
        rw [HR.out] at HE
        clear hz
        go_wp2_with fail
        refine (HC.out _).mono ?_
        rintro e w3 ⟨rfl, hb3⟩
        have HB3 := Lib.hid (HBS.out.trans (hb3.mono HBS.out.size))
        have HO3 : Hid (RowW w3 w1.heap.size u5 R) := own_below5 HO2.out hb3
        clear hb3
        go_wp2_with fail
        go_roundg (n - (k + 1))
        case measure => have := HG.out; omega
        case rel => exact ⟨k + 1, by omega, rfl, by go_num, HB3.out, by rw [HE.out]; exact HO3.out⟩
      | true =>
        rw [hz] at HC
        cases he : (x.c == c) with
        | false =>
          have HE := Lib.hid (wholes_no HX.out (show wholeB c x = false from (whole_dec hz he).trans rfl))
          rw [HR.out] at HE
          clear hz
          go_wp2_with fail
          refine (HC.out _).mono ?_
          rintro e w3 ⟨rfl, hb3⟩
          have HB3 := Lib.hid (HBS.out.trans (hb3.mono HBS.out.size))
          have HO3 : Hid (RowW w3 w1.heap.size u5 R) := own_below5 HO2.out hb3
          obtain ⟨y0, y1, y2, y3⟩ := four_heads (keep_block HXB.out hb3)
          clear hb3
          go_wp2_with fail
          go_roundg (n - (k + 1))
          case measure => have := HG.out; omega
          case rel => exact ⟨k + 1, by omega, rfl, by go_num, HB3.out, by rw [HE.out]; exact HO3.out⟩
        | true =>
          have HE := Lib.hid (wholes_yes HX.out (show wholeB c x = true from (whole_dec hz he).trans rfl))
          rw [HR.out] at HE
          clear hz
          go_wp2_with fail
          refine (HC.out _).mono ?_
          rintro e w3 ⟨rfl, hb3⟩
          have HB3 := Lib.hid (HBS.out.trans (hb3.mono HBS.out.size))
          have HO3 : Hid (RowW w3 w1.heap.size u5 R) := own_below5 HO2.out hb3
          obtain ⟨y0, y1, y2, y3⟩ := four_heads (keep_block HXB.out hb3)
          clear hb3
          go_wp2_with fail
          refine (HW.out _ x _).mono ?_
          rintro e w4 ⟨rfl, hb4⟩
          have HB4 := Lib.hid (HB3.out.trans (hb4.mono HB3.out.size))
          have HO4 : Hid (RowW w4 w1.heap.size u5 R) := own_below5 HO3.out hb4
          have hsz := HB4.out.size
          have hle := HLE.out
          clear hb4 y0 y1 y2 y3 x0 x1 x2 x3 p0 p1 p2
          go_wp2_with (at_builtin; refine wpList_append_own _ rfl _ _ 23 rfl w1.heap.size 52 i0 (.agg #[.int .i64 0, .int .i64 0]) 2 16 Tryz.underlying23 hi hz0 hz1 hz2 rfl (by decide) _ _ _ rfl (HO4.out.alloc _) ⟨w4.heap.size, 0, none⟩ 1 1 [.int .i64 x.u, .int .i64 x.s] rfl rfl ?c1 ?c2 ?c3 ?c4 ?c5 ?_)
          case c1 => exact news_two _ _ rfl _ _ _
          case c2 => intro u hu; simp at hu; rcases hu with rfl | rfl <;> rfl
          case c3 => unfold maxLen; omega
          case c4 => omega
          case c5 => simp; omega
          intro v5 w5 hown5 hgrow _
          have HB5 := Lib.hid ((HB4.out.alloc hsz _).trans (below_grown5 hgrow (by simp; omega) (own_base5 HO4.out)))
          have HO5 : Hid (RowW w5 w1.heap.size v5 (R ++ [(x.u, x.s)])) := RowW.snoc hown5
          clear hown5 hgrow hsz
          go_wp2_with fail
          go_roundg (n - (k + 1))
          case measure => have := HG.out; omega
          case rel => exact ⟨k + 1, by omega, rfl, by go_num, HB5.out, by rw [HE.out]; exact HO5.out⟩
    · have hltz : ¬ (k : Int) < (n : Int) := by omega
      have HE := Lib.hid (show l.take k = l from List.take_of_length_le (by rw [HN.out]; omega))
      have HF := Lib.hid (show SpansAt wr u5 (wholesT l c) by
        have h := HO.out
        rw [HE.out] at h
        exact spans_of_own (base := w1.heap.size) (e := 52) h (Nat.le_trans (wholes_le _ _) (by rw [HN.out]; omega)))
      go_wp2
      go_ret
      exact ⟨_, rfl, HF.out, fun _ b hb => Nat.le_trans HB1.out.size (own_base5 HO.out b hb), HB.out⟩

end Go.Proofs.YtpfpojehcjmfnaaGreat

/-
  Tables: whose window each tick is, and where tables lie.
  Conditions: none.
-/
set_option linter.unusedVariables false
namespace Go.Proofs.YtpfpojehcjmfnaaGreat
open Go.RowKit

def ownS (c : Int) (t : Nat) (a : Int) (x : Pl) : Int := if 0 < nOn x.ps c t then x.u else a
/-- The unit of the last place that runs on a core at a tick, 0 if none does. -/
def ownF (l : List Pl) (c : Int) (t : Nat) : Int := l.foldl (ownS c t) 0
theorem ownF_snoc (l : List Pl) (x : Pl) (c : Int) (t : Nat) : ownF (l ++ [x]) c t = ownS c t (ownF l c t) x := by simp [ownF, List.foldl_append]
theorem ownF_take {l : List Pl} {k : Nat} {x : Pl} (hx : l[k]? = some x) (c : Int) (t : Nat) : ownF (l.take (k + 1)) c t = ownS c t (ownF (l.take k) c t) x := by
  rw [List.take_add_one, hx, Option.toList_some, ownF_snoc]
/-- The first n numbers of a function. -/
def rowN (n : Nat) (F : Nat → Int) : List Int := (List.range n).map F
theorem rowN_length (n : Nat) (F : Nat → Int) : (rowN n F).length = n := by simp [rowN]
theorem rowN_get {n : Nat} (F : Nat → Int) {t : Nat} (h : t < n) : (rowN n F)[t]? = some (F t) := by simp [rowN, h]
theorem rowN_congr {n : Nat} {F G : Nat → Int} (h : ∀ t, t < n → F t = G t) : rowN n F = rowN n G := List.map_congr_left fun t ht => h t (List.mem_range.1 ht)
theorem rowN_zero (n : Nat) : rowN n (fun _ => 0) = zeros n := by
  unfold rowN zeros
  rw [List.map_const', List.length_range]
theorem rowN_set {n : Nat} (F : Nat → Int) (t : Nat) (u : Int) : (rowN n F).set t u = rowN n (fun s => if s = t then u else F s) := by
  apply List.ext_getElem?
  intro j
  by_cases hj : j < n
  · rw [rowN_get _ hj, List.getElem?_set]
    by_cases e : t = j
    · subst e; rw [if_pos rfl, if_pos (by rw [rowN_length]; exact hj), if_pos rfl]
    · rw [if_neg e, rowN_get _ hj, if_neg (Ne.symm e)]
  · rw [List.getElem?_eq_none (by rw [List.length_set, rowN_length]; omega), List.getElem?_eq_none (by rw [rowN_length]; omega)]

/-- A core's frame. -/
structure Tb where
  c : Int
  ts : List Int
  ws : List Sp
theorem Tb.ext' {a b : Tb} (h1 : a.c = b.c) (h2 : a.ts = b.ts) (h3 : a.ws = b.ws) : a = b := by cases a; cases b; simp_all
instance : DecidableEq Tb := fun a b => decidable_of_iff (a.c = b.c ∧ a.ts = b.ts ∧ a.ws = b.ws) ⟨fun h => Tb.ext' h.1 h.2.1 h.2.2, fun h => by rw [h]; exact ⟨rfl, rfl, rfl⟩⟩
instance : Inhabited Tb := ⟨⟨0, [], []⟩⟩
def tabOf (n : Nat) (l : List Pl) (c : Int) : Tb := ⟨c, rowN n (ownF l c), wholesT l c⟩
def tabsOf (n m : Nat) (l : List Pl) : List Tb := (ticksI m 16).map (tabOf n l)

theorem ints_block {W W' : World} {v : Value} {xs : List Int} (h : IntsAt W v xs) (hs : W.heap.size ≤ W'.heap.size) (hk : 0 < xs.length → ∀ b, v.ownBlock = some b → b < W.heap.size → W'.heap[b]? = W.heap[b]?) : IntsAt W' v xs := by
  obtain ⟨A, c, rfl, h2, h3⟩ := h
  refine ⟨A, c, rfl, h2, fun hn => ?_⟩
  obtain ⟨b, off, rfl, hlt, hc⟩ := h3 hn
  exact ⟨b, off, rfl, Nat.lt_of_lt_of_le hlt hs, fun j x hx => (World.cell?_of_block (w := W) (hk hn b rfl hlt)).trans (hc j x hx)⟩
theorem spans_block {W W' : World} {v : Value} {xs : List Sp} (h : SpansAt W v xs) (hs : W.heap.size ≤ W'.heap.size) (hk : 0 < xs.length → ∀ b, v.ownBlock = some b → b < W.heap.size → W'.heap[b]? = W.heap[b]?) : SpansAt W' v xs := by
  obtain ⟨A, c, rfl, h2, h3, h4, h5⟩ := h
  refine ⟨A, c, rfl, h2, h3, h4, fun hn => ?_⟩
  obtain ⟨b, off, rfl, hlt, hc⟩ := h5 hn
  exact ⟨b, off, rfl, Nat.lt_of_lt_of_le hlt hs, fun j x hx => ⟨(World.cell?_of_block (w := W) (hk hn b rfl hlt)).trans (hc j x hx).1, (World.cell?_of_block (w := W) (hk hn b rfl hlt)).trans (hc j x hx).2⟩⟩
theorem IntsAt.form {W : World} {v : Value} {xs : List Int} (h : IntsAt W v xs) : ∃ A c, v = .slice A xs.length c := by obtain ⟨A, c, rfl, _⟩ := h; exact ⟨A, c, rfl⟩
theorem SpansAt.form {W : World} {v : Value} {xs : List Sp} (h : SpansAt W v xs) : ∃ A c, v = .slice A xs.length c := by obtain ⟨A, c, rfl, _⟩ := h; exact ⟨A, c, rfl⟩

/-- A table, and where its two slices lie. -/
abbrev Rt := (Option Addr × Nat) × (Option Addr × Nat) × Tb
def tV1 (r : Rt) : Value := .slice r.1.1 r.2.2.ts.length r.1.2
def tV2 (r : Rt) : Value := .slice r.2.1.1 r.2.2.ws.length r.2.1.2
def tbCells (r : Rt) : List Value := [.int .i64 r.2.2.c, tV1 r, tV2 r]
def tbA (r : Rt) : Value := .agg #[.int .i64 r.2.2.c, tV1 r, tV2 r]
def rowT (l : List Rt) : List Value := l.flatMap tbCells
theorem rowT_cons (m : Rt) (l : List Rt) : rowT (m :: l) = .int .i64 m.2.2.c :: tV1 m :: tV2 m :: rowT l := by simp [rowT, tbCells]
theorem rowT_snoc (l : List Rt) (r : Rt) : rowT (l ++ [r]) = rowT l ++ tbCells r := by simp [rowT]
theorem rowT_length : ∀ (l : List Rt), (rowT l).length = l.length * 3
  | [] => rfl
  | m :: l => by rw [rowT_cons]; simp [rowT_length l]; omega
theorem rowT_get : ∀ (l : List Rt) (j : Nat) (m : Rt), l[j]? = some m → (rowT l)[j * 3]? = some (.int .i64 m.2.2.c) ∧ (rowT l)[j * 3 + 1]? = some (tV1 m) ∧ (rowT l)[j * 3 + 2]? = some (tV2 m)
  | [], j, m, h => by simp at h
  | x :: l, 0, m, h => by
    simp at h
    subst h
    exact ⟨rfl, rfl, rfl⟩
  | x :: l, j + 1, m, h => by
    have ih := rowT_get l j m (by simpa using h)
    rw [rowT_cons, show (j + 1) * 3 = j * 3 + 1 + 1 + 1 by omega]
    simpa using ih
def tbsR (ls : List Rt) : List Tb := ls.map fun r => r.2.2
theorem tbsR_length (ls : List Rt) : (tbsR ls).length = ls.length := by simp [tbsR]
theorem tbsR_snoc (ls : List Rt) (r : Rt) : tbsR (ls ++ [r]) = tbsR ls ++ [r.2.2] := by simp [tbsR]
/-- The two slices of a table read as its lists, in blocks of F. -/
structure TbIn (F : Nat → Prop) (W : World) (r : Rt) : Prop where
  i : IntsAt W (tV1 r) r.2.2.ts
  s : SpansAt W (tV2 r) r.2.2.ws
  bi : InB F r.2.2.ts.length (tV1 r)
  bs : InB F r.2.2.ws.length (tV2 r)
theorem TbIn.keepF {F : Nat → Prop} {W W' : World} {r : Rt} (h : TbIn F W r) (hs : W.heap.size ≤ W'.heap.size) (hk : ∀ b, b < W.heap.size → F b → W'.heap[b]? = W.heap[b]?) : TbIn F W' r :=
  ⟨ints_block h.i hs fun hn b hb hl => hk b hl (h.bi hn b hb), spans_block h.s hs fun hn b hb hl => hk b hl (h.bs hn b hb), h.bi, h.bs⟩
theorem TbIn.keep {F : Nat → Prop} {W W' : World} {r : Rt} (h : TbIn F W r) (hb : Below W.heap.size W W') : TbIn F W' r := h.keepF hb.size fun b hl _ => hb.block b hl
theorem TbIn.mono {F G : Nat → Prop} {W : World} {r : Rt} (h : TbIn F W r) (hg : ∀ b, b < W.heap.size → F b → G b) : TbIn G W r := by
  refine ⟨h.i, h.s, fun hn b hb => hg b ?_ (h.bi hn b hb), fun hn b hb => hg b ?_ (h.bs hn b hb)⟩
  · obtain ⟨A, c, e, _, h3⟩ := h.i
    obtain ⟨b', off, rfl, hlt, _⟩ := h3 hn
    rw [e] at hb
    cases hb
    exact hlt
  · obtain ⟨A, c, e, _, _, _, h3⟩ := h.s
    obtain ⟨b', off, rfl, hlt, _⟩ := h3 hn
    rw [e] at hb
    cases hb
    exact hlt
def AllTb (F : Nat → Prop) (W : World) (ls : List Rt) : Prop := ∀ r ∈ ls, TbIn F W r
/-- A row of tables of one's own, their slices in blocks of F that are not the row's. -/
structure RowTb (T : Nat) (W : World) (base : Nat) (F : Nat → Prop) (v : Value) (ls : List Rt) : Prop where
  own : W.ownsRow base T 3 v ls.length (rowT ls)
  tbs : AllTb (fun b => F b ∧ v.ownBlock ≠ some b) W ls
theorem RowTb.nil (T : Nat) (W : World) (base : Nat) (F : Nat → Prop) : RowTb T W base F (.slice none 0 0) [] := ⟨World.ownsRow_nil _ _ _ _, fun r hr => by cases hr⟩
theorem RowTb.keep {T : Nat} {W W' : World} {base : Nat} {F : Nat → Prop} {v : Value} {ls : List Rt} (h : RowTb T W base F v ls) (hb : Below W.heap.size W W') : RowTb T W' base F v ls := ⟨own_below5 h.own hb, fun r hr => (h.tbs r hr).keep hb⟩
theorem RowTb.snoc {T : Nat} {W W' : World} {base : Nat} {F : Nat → Prop} {v v' : Value} {ls : List Rt} {r : Rt} (h : RowTb T W base F v ls) (hr : TbIn (fun b => F b ∧ v.ownBlock ≠ some b) W r)
    (ho : W'.ownsRow base T 3 v' (ls.length + 1) (rowT ls ++ tbCells r)) (hg : W.grownBy W' v.ownBlock) (hat : v'.ownBlock = v.ownBlock ∨ v'.ownBlock = some W.heap.size) : RowTb T W' base F v' (ls ++ [r]) := by
  refine ⟨by rw [rowT_snoc, List.length_append]; exact ho, fun q hq => ?_⟩
  have hq' : TbIn (fun b => F b ∧ v.ownBlock ≠ some b) W q := by
    rcases List.mem_append.1 hq with hq | hq
    · exact h.tbs q hq
    · rw [List.mem_singleton.1 hq]; exact hr
  refine ((hq'.mono (G := fun b => b < W.heap.size ∧ F b ∧ v.ownBlock ≠ some b) fun b hb hF => ⟨hb, hF⟩).keepF hg.size (fun b hb hF => hg.block b hb fun e => hF.2.2 e.symm)).mono fun b _ hF => ⟨hF.2.1, fun e => ?_⟩
  rcases hat with hat | hat
  · exact hF.2.2 (hat ▸ e)
  · rw [hat] at e
    have := Option.some.inj e
    omega
/-- The slice value reads as tables. -/
def TabsAt (W : World) (v : Value) (tbs : List Tb) : Prop :=
  ∃ ls : List Rt, tbsR ls = tbs ∧ AllTb Any W ls ∧ ∃ A c, v = .slice A ls.length c ∧ ls.length ≤ c ∧ c ≤ 9223372036854775807 ∧
    (0 < ls.length → ∃ b off, A = some ⟨b, off, none⟩ ∧ b < W.heap.size ∧ ∀ (i : Nat) (u : Value), (rowT ls)[i]? = some u → W.cell? ⟨b, off + i, none⟩ = some u)
theorem TabsAt.keep {W W' : World} {v : Value} {tbs : List Tb} (h : TabsAt W v tbs) (hb : Below W.heap.size W W') : TabsAt W' v tbs := by
  obtain ⟨ls, h1, h2, A, c, h3, h4, h5, h6⟩ := h
  refine ⟨ls, h1, fun r hr => (h2 r hr).keep hb, A, c, h3, h4, h5, fun hn => ?_⟩
  obtain ⟨b, off, e, hlt, hc⟩ := h6 hn
  exact ⟨b, off, e, Nat.lt_of_lt_of_le hlt hb.size, fun j x hx => (hb.cell (p := ⟨b, off + j, none⟩) hlt).trans (hc j x hx)⟩
theorem TabsAt.form {W : World} {v : Value} {tbs : List Tb} (h : TabsAt W v tbs) : ∃ A c, v = .slice A tbs.length c ∧ tbs.length ≤ c ∧ c ≤ 9223372036854775807 := by
  obtain ⟨ls, rfl, _, A, c, h3, h4, h5, _⟩ := h
  rw [tbsR_length]
  exact ⟨A, c, h3, h4, h5⟩
theorem TabsAt.at_ {W : World} {A : Option Addr} {n c : Nat} {tbs : List Tb} (h : TabsAt W (.slice A n c) tbs) {j : Nat} {x : Tb} (hj : tbs[j]? = some x) :
    ∃ b off A1 c1 A2 c2, A = some ⟨b, off, none⟩ ∧ b < W.heap.size ∧ W.cell? ⟨b, off + j * 3, none⟩ = some (.int .i64 x.c) ∧ W.cell? ⟨b, off + j * 3 + 1, none⟩ = some (.slice A1 x.ts.length c1) ∧ W.cell? ⟨b, off + j * 3 + 2, none⟩ = some (.slice A2 x.ws.length c2) ∧
      IntsAt W (.slice A1 x.ts.length c1) x.ts ∧ SpansAt W (.slice A2 x.ws.length c2) x.ws := by
  obtain ⟨ls, rfl, h2, A', c', h3, h4, h5, h6⟩ := h
  injection h3 with e1 e2 e3
  subst e1 e2 e3
  unfold tbsR at hj
  rw [List.getElem?_map] at hj
  obtain ⟨r, hr, rfl⟩ := Option.map_eq_some_iff.1 hj
  have hlt := (List.getElem?_eq_some_iff.1 hr).1
  obtain ⟨b, off, e, hb, hc⟩ := h6 (by omega)
  obtain ⟨g0, g1, g2⟩ := rowT_get ls j r hr
  have hin := h2 r (List.mem_of_getElem? hr)
  exact ⟨b, off, _, _, _, _, e, hb, hc _ _ g0, by rw [Nat.add_assoc]; exact hc _ _ g1, by rw [Nat.add_assoc]; exact hc _ _ g2, hin.i, hin.s⟩
theorem tabs_of_own {T : Nat} {W : World} {base : Nat} {F : Nat → Prop} {v : Value} {ls : List Rt} (h : RowTb T W base F v ls) : TabsAt W v (tbsR ls) := by
  refine ⟨ls, rfl, fun r hr => (h.tbs r hr).mono fun _ _ _ => trivial, ?_⟩
  obtain ⟨h1, h2⟩ := h.own
  rcases h2 with ⟨rfl, h0⟩ | ⟨g, cap, cur, rfl, hg, hh, hn, hc, hs, ht⟩
  · have : ls = [] := List.eq_nil_of_length_eq_zero h0
    subst this
    exact ⟨none, 0, rfl, Nat.le_refl _, by decide, fun h => absurd h (by decide)⟩
  · refine ⟨_, cap, rfl, hn, by unfold maxLen at hc; omega, fun _ => ⟨g, 0, rfl, heap_lt hh, fun i u hu => ?_⟩⟩
    have hi : i < ls.length * 3 := by
      have := (List.getElem?_eq_some_iff.1 hu).1
      rwa [rowT_length] at this
    rw [Nat.zero_add, cell_of_row W g i _ _ (0, 0) hh, ← hu, ← ht, List.getElem?_take, if_pos hi]
    simp
theorem Tryz.infoTb : (Tryz.prog.info? 65).map (fun i => (i.zero, i.size, i.bytes)) = some (some (.agg #[.int .i64 0, .slice none 0 0, .slice none 0 0]), 3, 56) := by kernel_rfl
end Go.Proofs.YtpfpojehcjmfnaaGreat
