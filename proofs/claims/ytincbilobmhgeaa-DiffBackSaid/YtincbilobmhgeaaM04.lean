/-
  A row of ints that the call made: read, stored into, kept; a call in a region that draws.
  Conditions: none.
-/
import Derived.Test.YtincbilobmhgeaaM03
import Derived.Shelf.SlIterI.Nil
import Derived.Shelf.SortM.Plain
import Derived.Shelf.SortM.SortNone
import Derived.Shelf.SlMaps.Clone
import Derived.Ground.GgzProg
import Derived.Ground.SlgmProg
import Derived.Ground.SlmcProg
import Derived.Test.YtincbilobmhgeaaProg
import Derived.LoopTactic
import Derived.Test.YtincbilobmhgeaaM02
import Derived.WalkKit
import Derived.WalkLawsBesides
import Derived.Below
import Derived.Lib.Hide
import Derived.Handy
import Derived.ProofKit
import Derived.Deep.LoopGhost
import Derived.Deep.QuietTactic
import Derived.BigQuiet
import Derived.IntWalk
import Derived.Laws.MakeOwn
import Derived.Laws.Rows
import Derived.OpenShut

/-
  What query's function answers: the places of a unit in both plans.
  Conditions: its variables hold two maps of the call's own.
-/
set_option linter.unusedVariables false
set_option linter.unusedSimpArgs false
namespace Go.Proofs.Ytincbilobmhgeaa
open Go.RowKit Go.Maps

theorem results_two_rows {P : Program} {fn : Func} {p q : Tmp} {ty ty' : TypeId} (h : fn.results = #[.cell p ty, .cell q ty']) (tmps : Array Value) (w : World) (g g' : Nat) (t t' : TypeId) (cs cs' : Array Value) (fr fr' : Nat × Nat) (d d' : TypeDesc)
    (hp : tmps.getD p undef = .pointer (some ⟨g, 0, none⟩)) (hg : w.heap[g]? = some (.cells cs t fr))
    (hu : P.underlying ty = some d) (hd : (match d with | .struct _ | .array _ _ => true | _ => false) = true) (hi : (P.info? ty).map (·.size) = some cs.size)
    (hp' : tmps.getD q undef = .pointer (some ⟨g', 0, none⟩)) (hg' : w.heap[g']? = some (.cells cs' t' fr'))
    (hu' : P.underlying ty' = some d') (hd' : (match d' with | .struct _ | .array _ _ => true | _ => false) = true) (hi' : (P.info? ty').map (·.size) = some cs'.size) :
    (results fn tmps).run P w = .ok (.tuple #[.agg cs, .agg cs']) w := by
  have e1 := run_loadVar_row w g t ty cs fr d hg hu hd hi
  have e2 := run_loadVar_row w g' t' ty' cs' fr' d' hg' hu' hd' hi'
  have h1 : tmps[p]?.getD undef = .pointer (some ⟨g, 0, none⟩) := by simpa using hp
  have h2 : tmps[q]?.getD undef = .pointer (some ⟨g', 0, none⟩) := by simpa using hp'
  simp [results, h, h1, h2, asAddr, e1, e2, Sem.run_bind, Result.andThen]
/-- What a call answers: two places. -/
def RetTwo (x y : Pl) (w : World) (e : Ending) (w9 : World) : Prop := ∃ v1 v2, e = .returned (.tuple #[plA v1 x, plA v2 y]) ∧ PcsAt w9 v1 x.ps ∧ PcsAt w9 v2 y.ps ∧ Below w.heap.size w w9

set_option maxRecDepth 100000 in
set_option maxHeartbeats 4000000 in
theorem ask_any (u : Int) (ma mb N M : Nat) (Fa Fb : Int → Option Pl) (B1 B2 : Nat) (w : World) (h1 : MapX w ma N Fa) (h2 : MapX w mb M Fb) (c1 : w.cell? ⟨B1, 0, none⟩ = some (.map (some ma))) (c2 : w.cell? ⟨B2, 0, none⟩ = some (.map (some mb)))
    (hB1 : B1 < w.heap.size) (hB2 : B2 < w.heap.size) (hu0 : -9223372036854775808 ≤ u) (hu1 : u ≤ 9223372036854775807) :
    Calls Try.prog 46 #[.int .i64 u, .pointer (some ⟨B1, 0, none⟩), .pointer (some ⟨B2, 0, none⟩)] w (RetTwo (plF Fa u) (plF Fb u) w) := by
  have mixed : Try.prog.follows .mixedOrders = true := by kernel_rfl
  obtain ⟨V1, D1, F1⟩ := h1
  obtain ⟨V2, D2, F2⟩ := h2
  obtain ⟨x, hx⟩ : ∃ x, plF Fa u = x := ⟨_, rfl⟩
  obtain ⟨y, hy⟩ : ∃ x, plF Fb u = x := ⟨_, rfl⟩
  have px := F1.pcs u
  have py := F2.pcs u
  rw [hx] at px
  rw [hy] at py
  obtain ⟨xA, xd, hv1⟩ := px.form
  obtain ⟨yA, yd, hv2⟩ := py.form
  rw [hv1] at px
  rw [hv2] at py
  have HPX := Lib.hid px
  have HPY := Lib.hid py
  obtain ⟨xn, hxn⟩ : ∃ n, x.ps.length = n := ⟨_, rfl⟩
  obtain ⟨yn, hyn⟩ : ∃ n, y.ps.length = n := ⟨_, rfl⟩
  obtain ⟨xu, hxu⟩ : ∃ n, x.u = n := ⟨_, rfl⟩
  obtain ⟨xs, hxs⟩ : ∃ n, x.s = n := ⟨_, rfl⟩
  obtain ⟨xc, hxc⟩ : ∃ n, x.c = n := ⟨_, rfl⟩
  obtain ⟨yu, hyu⟩ : ∃ n, y.u = n := ⟨_, rfl⟩
  obtain ⟨ys, hys⟩ : ∃ n, y.s = n := ⟨_, rfl⟩
  obtain ⟨yc, hyc⟩ : ∃ n, y.c = n := ⟨_, rfl⟩
  have look : ∀ {W : World} {m n : Nat} {F : Int → Option Pl} {V : Int → Value} {D : DataW Value}, Own22 W m n D → D.atKey (.int .i64 u) (.held zeroPA) = .held (plA (V u) (plF F u)) → (Instr.lookup 57 (.map (some m)) (.int .i64 u) false).run Try.prog W = .ok (plA (V u) (plF F u)) W := by
    intro W m n F V D ho hval
    obtain ⟨v, ps, hrun, hv⟩ := ho.lookup keyedInt Try.underlying57 (zeroPlV W) (zd := .held zeroPA) (zp := []) rfl (key_int u hu0 hu1)
    rw [hval] at hv
    have e : v = plA (V u) (plF F u) := by
      have e := Option.some.inj hv
      simp only [Prod.mk.injEq] at e
      exact DataW.held.inj e.1
    rw [hrun, e]
  have HLA : Hid (∀ W, Below w.heap.size w W → (Instr.lookup 57 (.map (some ma)) (.int .i64 u) false).run Try.prog W = .ok (.agg #[.int .i64 xu, .int .i64 xs, .int .i64 xc, .slice xA xn xd]) W) := Lib.hid (fun W hk => by
    have h := look (own22_keep F1.own (hk.block ma F1.own.lt)) (F1.val u)
    rw [hv1, hx] at h
    unfold plA at h
    rw [hxn, hxu, hxs, hxc] at h
    exact h)
  have HLB : Hid (∀ W, Below w.heap.size w W → (Instr.lookup 57 (.map (some mb)) (.int .i64 u) false).run Try.prog W = .ok (.agg #[.int .i64 yu, .int .i64 ys, .int .i64 yc, .slice yA yn yd]) W) := Lib.hid (fun W hk => by
    have h := look (own22_keep F2.own (hk.block mb F2.own.lt)) (F2.val u)
    rw [hv2, hy] at h
    unfold plA at h
    rw [hyn, hyu, hys, hyc] at h
    exact h)
  have HSA : Hid (∀ W, Below w.heap.size w W → W.cell? ⟨B1, 0, none⟩ = some (.map (some ma)) ∧ W.cell? ⟨B2, 0, none⟩ = some (.map (some mb)) ∧ (Instr.lookup 57 (.map (some ma)) (.int .i64 u) false).run Try.prog W = .ok (.agg #[.int .i64 xu, .int .i64 xs, .int .i64 xc, .slice xA xn xd]) W ∧ (Instr.lookup 57 (.map (some mb)) (.int .i64 u) false).run Try.prog W = .ok (.agg #[.int .i64 yu, .int .i64 ys, .int .i64 yc, .slice yA yn yd]) W) := Lib.hid (fun W hk => ⟨(hk.cell (p := ⟨B1, 0, none⟩) hB1).trans c1, (hk.cell (p := ⟨B2, 0, none⟩) hB2).trans c2, HLA.out W hk, HLB.out W hk⟩)
  obtain ⟨w1, R1, hw1, hR1, hR1l, hb1, hr1⟩ := box_any w #[.int .i64 0, .int .i64 0, .int .i64 0, .slice none 0 0] 37
  obtain ⟨w2, R2, hw2, hR2, hR2l, hb2, hr2⟩ := box_any w1 #[.int .i64 0, .int .i64 0, .int .i64 0, .slice none 0 0] 37
  have HBE : Hid (Below w.heap.size w w2) := Lib.hid (hb1.trans (hb2.mono hb1.size))
  have HBD : Hid (Below w.heap.size w w2.drew) := Lib.hid (HBE.out.drew)
  have HR1L : Hid (w.heap.size ≤ R1) := Lib.hid (by omega)
  have HR12 : Hid (w.heap.size ≤ R2) := Lib.hid (by have := hb1.size; omega)
  have HNE : Hid (R2 ≠ R1) := Lib.hid (by omega)
  have HRA : Hid (w2.drew.heap[R1]? = some (.cells #[.int .i64 0, .int .i64 0, .int .i64 0, .slice none 0 0] 37 (0, 0))) := Lib.hid (keep_block hr1 hb2.drew)
  have HRB : Hid (w2.drew.heap[R2]? = some (.cells #[.int .i64 0, .int .i64 0, .int .i64 0, .slice none 0 0] 37 (0, 0))) := Lib.hid hr2
  have HXN := Lib.hid (show plF Fa u = x ∧ plF Fb u = y ∧ plA (.slice xA x.ps.length xd) x = .agg #[.int .i64 xu, .int .i64 xs, .int .i64 xc, .slice xA xn xd] ∧ plA (.slice yA y.ps.length yd) y = .agg #[.int .i64 yu, .int .i64 ys, .int .i64 yc, .slice yA yn yd] from ⟨hx, hy, by unfold plA; rw [hxn, hxu, hxs, hxc], by unfold plA; rw [hyn, hyu, hys, hyc]⟩)
  clear F1 F2 px py hx hy hxn hyn hxu hxs hxc hyu hys hyc look c1 c2 hb1 hr1 hb2 hr2 hv1 hv2
  go_enter Try.func46, Try.ntmps46
  go_wp2_with fail
  refine wp_region_held_drew (S := fun w' => w'.cell? ⟨B1, 0, none⟩ = some (.map (some ma)) ∧ w'.cell? ⟨B2, 0, none⟩ = some (.map (some mb)) ∧ (Instr.lookup 57 (.map (some ma)) (.int .i64 u) false).run Try.prog w' = .ok (.agg #[.int .i64 xu, .int .i64 xs, .int .i64 xc, .slice xA xn xd]) w' ∧ (Instr.lookup 57 (.map (some mb)) (.int .i64 u) false).run Try.prog w' = .ok (.agg #[.int .i64 yu, .int .i64 ys, .int .i64 yc, .slice yA yn yd]) w') (by kernel_rfl) ?_ (fun hHeld => ?_)
  · exact HSA.out _ HBD.out
  refine wpAnyH_take (i := 0) (oi := ⟨some 6, _, _, _, _, _⟩) (v := ?_) rfl (by kernel_rfl) (by kernel_rfl) (by kernel_rfl) (fun _ _ _ h => h) (Or.inl ⟨by kernel_rfl, ?_⟩) (by assumption) ?_
  rotate_left
  · (intro w hSw; (try dsimp only at hSw); go_simp; try with_reducible rfl)
  (try simp only [Act.put, List.setIfInBounds_toArray, List.set_cons_zero, List.set_cons_succ])
  refine wpAnyH_take (i := 1) (oi := ⟨some 7, _, _, _, _, _⟩) (v := ?_) rfl (by kernel_rfl) (by kernel_rfl) (by kernel_rfl) (fun _ _ _ h => h) (Or.inl ⟨by kernel_rfl, ?_⟩) (by assumption) ?_
  rotate_left
  · (intro w hSw; (try dsimp only at hSw); go_simp; try with_reducible rfl)
  (try simp only [Act.put, List.setIfInBounds_toArray, List.set_cons_zero, List.set_cons_succ])
  refine wpAnyH_take (i := 2) (oi := ⟨some 8, _, _, _, _, _⟩) (v := ?_) rfl (by kernel_rfl) (by kernel_rfl) (by kernel_rfl) (fun _ _ _ h => h) (Or.inl ⟨by kernel_rfl, ?_⟩) (by assumption) ?_
  rotate_left
  · (intro w hSw; (try dsimp only at hSw); go_simp; try with_reducible rfl)
  (try simp only [Act.put, List.setIfInBounds_toArray, List.set_cons_zero, List.set_cons_succ])
  refine wpAnyH_take (i := 3) (oi := ⟨some 9, _, _, _, _, _⟩) (v := ?_) rfl (by kernel_rfl) (by kernel_rfl) (by kernel_rfl) (fun _ _ _ h => h) (Or.inl ⟨by kernel_rfl, ?_⟩) (by assumption) ?_
  rotate_left
  · (intro w hSw; (try dsimp only at hSw); go_simp; try with_reducible rfl)
  (try simp only [Act.put, List.setIfInBounds_toArray, List.set_cons_zero, List.set_cons_succ])
  refine wpAnyH_take (i := 4) (oi := ⟨some 10, _, _, _, _, _⟩) (v := ?_) rfl (by kernel_rfl) (by kernel_rfl) (by kernel_rfl) (fun _ _ _ h => h) (Or.inl ⟨by kernel_rfl, ?_⟩) (by assumption) ?_
  rotate_left
  · (intro w hSw; (try dsimp only at hSw); go_simp; try with_reducible rfl)
  (try simp only [Act.put, List.setIfInBounds_toArray, List.set_cons_zero, List.set_cons_succ])
  refine wpAnyH_take (i := 5) (oi := ⟨some 11, _, _, _, _, _⟩) (v := ?_) rfl (by kernel_rfl) (by kernel_rfl) (by kernel_rfl) (fun _ _ _ h => h) (Or.inl ⟨by kernel_rfl, ?_⟩) (by assumption) ?_
  rotate_left
  · (intro w hSw; (try dsimp only at hSw); go_simp; try with_reducible rfl)
  (try simp only [Act.put, List.setIfInBounds_toArray, List.set_cons_zero, List.set_cons_succ])
  refine wpAnyH_ready (rs := [6]) (by kernel_rfl) (by simp) ?_
  refine AllReadyH.cons (o := ⟨none, _, _, _, _, _⟩) rfl (fun K hK => ?_) AllReadyH.nil
  rw [if_pos (by kernel_rfl)]
  refine wp_store_row _ _ _ rfl R1 #[.int .i64 xu, .int .i64 xs, .int .i64 xc, .slice xA xn xd] rfl rfl 37 _ HRA.out (Try.sizePl _ _ _ _) rfl (one4 _ _ _ _ _ _) ?_
  refine hK.out _ _ ?_ (fun hHeld => ?_)
  · exact HSA.out _ (below_row16 HBD.out HR1L.out _)
  clear hK K
  (try simp only [Act.put, List.setIfInBounds_toArray, List.set_cons_zero, List.set_cons_succ])
  refine wpAnyH_ready (rs := [7]) (by kernel_rfl) (by simp) ?_
  refine AllReadyH.cons (o := ⟨none, _, _, _, _, _⟩) rfl (fun K hK => ?_) AllReadyH.nil
  rw [if_pos (by kernel_rfl)]
  refine wp_store_row _ _ _ rfl R2 #[.int .i64 yu, .int .i64 ys, .int .i64 yc, .slice yA yn yd] rfl rfl 37 _ ((setRow_other _ _ _ _ HNE.out).trans HRB.out) (Try.sizePl _ _ _ _) rfl (one4 _ _ _ _ _ _) ?_
  refine hK.out _ _ ?_ (fun hHeld => ?_)
  · exact HSA.out _ (below_row16 (below_row16 HBD.out HR1L.out _) HR12.out _)
  clear hK K
  (try simp only [Act.put, List.setIfInBounds_toArray, List.set_cons_zero, List.set_cons_succ])
  refine wpAnyH_done (by kernel_rfl) ?_ _
  clear hHeld
  repeat go_step
  refine bodyPost_ret (v := .tuple #[.agg #[.int .i64 xu, .int .i64 xs, .int .i64 xc, .slice xA xn xd], .agg #[.int .i64 yu, .int .i64 ys, .int .i64 yc, .slice yA yn yd]]) (results_two_rows rfl _ _ R1 R2 _ _ _ _ _ _ _ _ rfl ((setRow_other _ _ _ _ (fun e => HNE.out e.symm)).trans (setRow_heap _ _ _ _ _ _ HRA.out)) Try.underlying37 rfl (Try.sizePl _ _ _ _) rfl (setRow_heap _ _ _ _ _ _ ((setRow_other _ _ _ _ HNE.out).trans HRB.out)) Try.underlying37 rfl (Try.sizePl _ _ _ _)) rfl ?_
  have HB9 := below_row16 (below_row16 HBD.out HR1L.out #[.int .i64 xu, .int .i64 xs, .int .i64 xc, .slice xA xn xd]) HR12.out #[.int .i64 yu, .int .i64 ys, .int .i64 yc, .slice yA yn yd]
  obtain ⟨e1, e2, e3, e4⟩ := HXN.out
  rw [e1, e2, ← e3, ← e4]
  exact ⟨_, _, rfl, HPX.out.keep HB9, HPY.out.keep HB9, HB9⟩
end Go.Proofs.Ytincbilobmhgeaa

/-
  index of the program: a plan's places by their units.
  Conditions: the slice reads as places, not too many.
-/
set_option linter.unusedVariables false
set_option linter.unusedSimpArgs false
namespace Go.Proofs.Ytincbilobmhgeaa
open Go.RowKit Go.Maps

def idxF (l : List Pl) : Int → Option Pl := l.foldl (fun F x => updF F x.u (some x)) (fun _ => none)
theorem idxF_take {l : List Pl} {k : Nat} {x : Pl} (h : l[k]? = some x) : idxF (l.take (k + 1)) = updF (idxF (l.take k)) x.u (some x) := by
  unfold idxF
  rw [List.take_add_one, h]
  simp [List.foldl_append]
theorem idxF_snoc (l : List Pl) (x : Pl) : idxF (l ++ [x]) = updF (idxF l) x.u (some x) := by
  unfold idxF
  simp [List.foldl_append]
/-- A unit that stands once: what is found. -/
theorem idxF_find : ∀ {l : List Pl}, l.Pairwise (fun x y => x.u ≠ y.u) → ∀ q, idxF l q = findU l q := by
  intro l h q
  have key : ∀ (l2 l1 : List Pl), (l1 ++ l2).Pairwise (fun x y => x.u ≠ y.u) → idxF l1 q = findU l1 q → idxF (l1 ++ l2) q = findU (l1 ++ l2) q := by
    intro l2
    induction l2 with
    | nil => intro l1 _ h; simpa using h
    | cons x r ih =>
      intro l1 hp h1
      have e : l1 ++ x :: r = (l1 ++ [x]) ++ r := by simp
      rw [e] at hp ⊢
      refine ih (l1 ++ [x]) hp ?_
      rw [idxF_snoc]
      unfold findU updF
      rw [List.find?_append]
      by_cases hq : q = x.u
      · rw [if_pos hq]
        have hn : l1.find? (fun y => decide (y.u = q)) = none := by
          rw [List.find?_eq_none]
          intro y hy e
          have h2 := (List.pairwise_append.1 (List.pairwise_append.1 hp).1).2.2 y hy x (by simp)
          exact h2 ((of_decide_eq_true e).trans hq)
        rw [hn]
        simp [List.find?, hq]
      · rw [if_neg hq, h1]
        unfold findU
        have hx : (List.find? (fun y => decide (y.u = q)) [x]) = none := by
          simp [List.find?]
          split
          · rename_i e
            exact absurd (of_decide_eq_true e).symm hq
          · rfl
        rw [hx]
        cases l1.find? (fun y => decide (y.u = q)) <;> rfl
  have := key l [] (by simpa using h) rfl
  simpa using this
theorem below_map22 {W0 W W' : World} {B mb : Nat} (h : Below B W0 W) (hB : B ≤ mb) (hg : W.grownBy W' (some mb)) (hs : B ≤ W.heap.size) : Below B W0 W' := h.trans ⟨hg.os, hg.tape, hg.output, hg.size, fun k hk => hg.block k (by omega) (fun e => by have := Option.some.inj e; omega)⟩
/-- What a call answers: a map of places of its own. -/
def RetMap (N : Nat) (F : Int → Option Pl) (w : World) (e : Ending) (w9 : World) : Prop := ∃ mb, e = .returned (.map (some mb)) ∧ w.heap.size ≤ mb ∧ MapX w9 mb N F ∧ Below w.heap.size w w9
theorem makeMapH (w : World) (n : Nat) (h : n ≤ 1000000) : (Instr.makeMap 57 (some (.int .i64 n))).run Try.prog w = .ok (.map (some w.heap.size)) (w.alloc (.map #[] 0)) := by
  simp [Instr.makeMap, asInt, asIntOf, Sem.run_pure, Result.andThen]

set_option maxRecDepth 100000 in
set_option maxHeartbeats 4000000 in
theorem index_any (f : Int) (m : Nat) (v : Value) (l : List Pl) (w : World) (h : PlsAt w v l) (hl : l.length ≤ 1000) (hu : ∀ x ∈ l, -9223372036854775808 ≤ x.u ∧ x.u ≤ 9223372036854775807) :
    Calls Try.prog 37 #[planA f m v] w (RetMap l.length (idxF l) w) := by
  have HU := Lib.hid hu
  have HL := Lib.hid h
  obtain ⟨A, c, rfl, hc1, hc2⟩ := h.form
  unfold planA
  obtain ⟨n, hn⟩ : ∃ n, l.length = n := ⟨_, rfl⟩
  rw [hn] at HL hl hc1 ⊢
  have HN := Lib.hid hn
  obtain ⟨w1, P, hw1, hP, hPl, hb1, hbox⟩ := box_any w #[.int .i64 f, .int .u32 m, .slice A n c] 25
  obtain ⟨p0, p1, p2⟩ := three_heads hbox
  have hmk := makeMapH w1 n (by omega)
  have hm0 := MapX.new w1
  obtain ⟨mb, hmb⟩ : ∃ mb, w1.heap.size = mb := ⟨_, rfl⟩
  obtain ⟨w2, hw2⟩ : ∃ w2, w1.alloc (.map #[] 0) = w2 := ⟨_, rfl⟩
  have hb2 : Below w1.heap.size w1 w2 := by rw [← hw2]; exact (Below.refl _ _).alloc (Nat.le_refl _) _
  have HB2 := Lib.hid (hb1.trans (hb2.mono hb1.size))
  have HMB := Lib.hid (show w.heap.size ≤ mb by have := hb1.size; omega)
  obtain ⟨q0, q1, q2⟩ := three_heads (keep_block hbox hb2)
  rw [hmb, hw2] at hm0 hmk
  have HM0 := Lib.hid hm0
  clear h hu hn hb1 hbox hb2 hm0 hw2 hmb
  go_enter Try.func37, Try.ntmps37
  go_wp2_with fail
  clear p0 p1 p2 q0 q1 q2 hmk hw1 hP
  go_loopg [13] n (fun gg i wr => ∃ k : Nat, k ≤ n ∧ gg = n - k ∧ i = .int .i64 k ∧ MapX wr mb k (idxF (l.take k)) ∧ Below w.heap.size w wr)
  case atStart => exact ⟨0, Nat.zero_le _, by omega, rfl, HM0.out, HB2.out⟩
  case round =>
    obtain ⟨k, hk, hg, rfl, hmx, hbw⟩ := hrel
    have HG := Lib.hid hg
    have HBW := Lib.hid hbw
    have HMX := Lib.hid hmx
    clear hg hmx
    by_cases hlt : k < n
    · have hltz : (k : Int) < (n : Int) := by omega
      have hk0 : (0 : Int) ≤ (k : Int) := by omega
      obtain ⟨x, hx⟩ := exP_at (xs := l) (k := k) (by rw [HN.out]; exact hlt)
      obtain ⟨b, off, B1, d1, hAe, hbl, _, ⟨x0, x1, x2, x3⟩, hp1⟩ := (HL.out.keep HBW.out).at_ hx
      subst hAe
      simp only at x0 x1 x2 x3
      have hxu := HU.out x (List.mem_of_getElem? hx)
      have HTK := Lib.hid (idxF_take hx)
      obtain ⟨xu, xs, xc, xp⟩ := x
      simp only at x0 x1 x2 x3 hp1 hxu HTK
      obtain ⟨n1, hn1⟩ : ∃ n1, xp.length = n1 := ⟨_, rfl⟩
      rw [hn1] at x3 hp1
      have HN1 := Lib.hid hn1
      obtain ⟨w4, Y, hw4, hY, hYl, hb4, hyb⟩ := box_any wr #[.int .i64 xu, .int .i64 xs, .int .i64 xc, .slice B1 n1 d1] 37
      obtain ⟨y0, y1, y2, y3⟩ := four_heads hyb
      obtain ⟨V, D, hF⟩ := HMX.out.keep hb4
      have HF := Lib.hid hF
      have hout4 := hF.own
      have HB4 := Lib.hid (HBW.out.trans (hb4.mono HBW.out.size))
      have HP4 := Lib.hid (hp1.keep hb4)
      have hkey := key_int xu hxu.1 hxu.2
      have HMX2 := Lib.hid (show k < maxLen by unfold maxLen; omega)
      clear hx hn1 hp1 hb4 hyb hF hxu hbw
      go_wp2_with (at_mapUpdate; refine wpList_mapUpdate_own _ rfl _ _ _ 57 rfl 3 37 keyedInt Try.underlying57 elemP mb _ _ rfl hout4 HMX2.out _ _ _ rfl rfl hkey _ [] rfl ?_; intro w5 hout5 hg5; go_frame)
      have HM5 : Hid (MapX w5 mb (k + 1) (idxF (l.take (k + 1)))) := Lib.hid (by
        rw [HTK.out]
        refine HF.out.put (v := .slice B1 n1 d1) (x := ⟨xu, xs, xc, xp⟩) HP4.out hout5 hg5)
      have HB5 := Lib.hid (below_map22 HB4.out HMB.out hg5 HB4.out.size)
      clear hout5 hg5
      go_roundg (n - (k + 1))
      case measure => have := HG.out; omega
      case rel => exact ⟨k + 1, by omega, rfl, by go_num, HM5.out, HB5.out⟩
    · have hltz : ¬ (k : Int) < (n : Int) := by omega
      have HKN := Lib.hid (show k = n by omega)
      clear hbw
      go_wp2_with fail
      go_ret
      refine ⟨mb, rfl, HMB.out, ?_, HBW.out⟩
      have h2 := HMX.out
      rw [HKN.out, ← HN.out, List.take_length] at h2
      rw [← HN.out]
      exact h2
end Go.Proofs.Ytincbilobmhgeaa

/-
  DERIVED: THE SHELF's CONTRACTS AT THIS DUMP, IN PLAIN WORDS (tools/lay-plain.mjs out of 'TryShelf22.lean', which tools/lay-shelf.mjs wrote): THE SAME DECLARATIONS UNDER THE SAME NAMES: 'import', 'namespace', 'open', 'def', 'theorem' AND NOTHING ELSE: no command of the shelf's: FOR A HAND-IN. Each laying: the table of numbers ('.._ren') and one theorem, a field a fact of the dump's own or the kernel's comparison; each contract: ONE APPLICATION.
-/
namespace Go.Proofs
open Go.Shelf
def Try.keysA_ren : Go.Shelf.Ren := ⟨fun | 7 => 54 | 10 => 65 | n => n, fun | 23 => 57 | 26 => 3 | 3 => 37 | 28 => 75 | 0 => 0 | 27 => 74 | 33 => 77 | 4 => 4 | n => n, fun | n => n⟩
theorem Try.keysA : Go.Proofs.SlLaysZI.n7 Try.prog Try.keysA_ren := {
  mixed := by kernel_rfl
  f7 := ⟨Try.f54.name, by decide, Try.func54.trans (congrArg some (by kernel_rfl))⟩
  f10 := ⟨Try.f65.name, by decide, Try.func65.trans (congrArg some (by kernel_rfl))⟩
  t0 := Try.underlying0
  a0 := Try.isAgg0
  z0 := Try.sizeOf0
  v0 := Try.zeroValue0
  t4 := Try.underlying4
  a4 := Try.isAgg4
  z4 := Try.sizeOf4
  v4 := Try.zeroValue4
  t23 := Try.underlying57
  a23 := Try.isAgg57
  z23 := Try.sizeOf57
  v23 := Try.zeroValue57
  t26 := Try.underlying3
  a26 := Try.isAgg3
  z26 := Try.sizeOf3
  v26 := Try.zeroValue3
  t27 := Try.underlying74
  a27 := Try.isAgg74
  z27 := Try.sizeOf74
  v27 := Try.zeroValue74
  t28 := Try.underlying75
  a28 := Try.isAgg75
  z28 := Try.sizeOf75
  v28 := Try.zeroValue75
  t33 := Try.underlying77
  a33 := Try.isAgg77
  z33 := Try.sizeOf77
  v33 := Try.zeroValue77 }
def Try.sortedA_ren : Go.Shelf.Ren := ⟨fun | 6 => 53 | 8 => 63 | 9 => 64 | 11 => 68 | 13 => 70 | 12 => 69 | 23 => 80 | 24 => 81 | 14 => 71 | 15 => 72 | 16 => 73 | 17 => 74 | 18 => 75 | 19 => 76 | 20 => 77 | 21 => 78 | 22 => 79 | 25 => 82 | 26 => 83 | 27 => 84 | 28 => 85 | 29 => 86 | 30 => 87 | 31 => 88 | n => n, fun | 26 => 3 | 28 => 75 | 24 => 29 | 0 => 0 | 3 => 3 | 37 => 87 | 48 => 22 | 50 => 54 | 4 => 4 | 40 => 96 | 39 => 95 | 45 => 101 | 5 => 5 | 9 => 9 | 51 => 104 | 55 => 108 | 57 => 110 | 58 => 111 | 33 => 77 | n => n, fun | n => n⟩
theorem Try.sortedA : Go.Proofs.SlLaysZI.n6 Try.prog Try.sortedA_ren := {
  mixed := by kernel_rfl
  f6 := ⟨Try.f53.name, by decide, Try.func53.trans (congrArg some (by kernel_rfl))⟩
  f8 := ⟨Try.f63.name, by decide, Try.func63.trans (congrArg some (by kernel_rfl))⟩
  f11 := ⟨Try.f68.name, by decide, Try.func68.trans (congrArg some (by kernel_rfl))⟩
  t0 := Try.underlying0
  a0 := Try.isAgg0
  z0 := Try.sizeOf0
  v0 := Try.zeroValue0
  t24 := Try.underlying29
  a24 := Try.isAgg29
  z24 := Try.sizeOf29
  v24 := Try.zeroValue29
  t26 := Try.underlying3
  a26 := Try.isAgg3
  z26 := Try.sizeOf3
  v26 := Try.zeroValue3
  t28 := Try.underlying75
  a28 := Try.isAgg75
  z28 := Try.sizeOf75
  v28 := Try.zeroValue75
  i26 := by kernel_rfl }
def Try.sortA_ren : Go.Shelf.Ren := ⟨fun | 5 => 64 | 8 => 70 | 7 => 69 | 19 => 80 | 20 => 81 | 10 => 71 | 11 => 72 | 12 => 73 | 13 => 74 | 14 => 75 | 15 => 76 | 16 => 77 | 17 => 78 | 18 => 79 | 30 => 82 | 31 => 83 | 32 => 84 | 33 => 85 | 34 => 86 | 35 => 87 | 40 => 88 | n => n, fun | 23 => 29 | 25 => 3 | 3 => 3 | 32 => 87 | 22 => 29 | 0 => 0 | 44 => 22 | 46 => 54 | 4 => 4 | 36 => 96 | 35 => 95 | 41 => 101 | 5 => 5 | 9 => 9 | 53 => 104 | 57 => 108 | 63 => 110 | 64 => 111 | n => n, fun | n => n⟩
theorem Try.sortA : Go.Proofs.SlLaysM.n5 Try.prog Try.sortA_ren := {
  mixed := by kernel_rfl
  f5 := ⟨Try.f64.name, by decide, Try.func64.trans (congrArg some (by kernel_rfl))⟩
  f7 := ⟨Try.f69.name, by decide, Try.func69.trans (congrArg some (by kernel_rfl))⟩
  f8 := Try.func70.trans (congrArg some (by kernel_rfl))
  f10 := ⟨Try.f71.name, by decide, Try.func71.trans (congrArg some (by kernel_rfl))⟩
  f11 := ⟨Try.f72.name, by decide, Try.func72.trans (congrArg some (by kernel_rfl))⟩
  f12 := ⟨Try.f73.name, by decide, Try.func73.trans (congrArg some (by kernel_rfl))⟩
  f13 := ⟨Try.f74.name, by decide, Try.func74.trans (congrArg some (by kernel_rfl))⟩
  f14 := ⟨Try.f75.name, by decide, Try.func75.trans (congrArg some (by kernel_rfl))⟩
  f15 := ⟨Try.f76.name, by decide, Try.func76.trans (congrArg some (by kernel_rfl))⟩
  f16 := ⟨Try.f77.name, by decide, Try.func77.trans (congrArg some (by kernel_rfl))⟩
  f17 := ⟨Try.f78.name, by decide, Try.func78.trans (congrArg some (by kernel_rfl))⟩
  f18 := ⟨Try.f79.name, by decide, Try.func79.trans (congrArg some (by kernel_rfl))⟩
  f19 := Try.func80.trans (congrArg some (by kernel_rfl))
  f20 := Try.func81.trans (congrArg some (by kernel_rfl))
  f30 := ⟨Try.f82.name, by decide, Try.func82.trans (congrArg some (by kernel_rfl))⟩
  f31 := Try.func83.trans (congrArg some (by kernel_rfl))
  f32 := Try.func84.trans (congrArg some (by kernel_rfl))
  f33 := ⟨Try.f85.name, by decide, Try.func85.trans (congrArg some (by kernel_rfl))⟩
  f34 := ⟨Try.f86.name, by decide, Try.func86.trans (congrArg some (by kernel_rfl))⟩
  f35 := ⟨Try.f87.name, by decide, Try.func87.trans (congrArg some (by kernel_rfl))⟩
  f40 := ⟨Try.f88.name, by decide, Try.func88.trans (congrArg some (by kernel_rfl))⟩
  t0 := Try.underlying0
  a0 := Try.isAgg0
  z0 := Try.sizeOf0
  v0 := Try.zeroValue0
  t3 := Try.underlying3
  a3 := Try.isAgg3
  z3 := Try.sizeOf3
  v3 := Try.zeroValue3
  t4 := Try.underlying4
  a4 := Try.isAgg4
  z4 := Try.sizeOf4
  v4 := Try.zeroValue4
  t5 := Try.underlying5
  a5 := Try.isAgg5
  z5 := Try.sizeOf5
  v5 := Try.zeroValue5
  t9 := Try.underlying9
  a9 := Try.isAgg9
  z9 := Try.sizeOf9
  v9 := Try.zeroValue9
  t22 := Try.underlying29
  a22 := Try.isAgg29
  z22 := Try.sizeOf29
  v22 := Try.zeroValue29
  t23 := Try.underlying29
  a23 := Try.isAgg29
  z23 := Try.sizeOf29
  v23 := Try.zeroValue29
  t25 := Try.underlying3
  a25 := Try.isAgg3
  z25 := Try.sizeOf3
  v25 := Try.zeroValue3
  t32 := Try.underlying87
  a32 := Try.isAgg87
  z32 := Try.sizeOf87
  v32 := Try.zeroValue87
  t35 := Try.underlying95
  a35 := Try.isAgg95
  z35 := Try.sizeOf95
  v35 := Try.zeroValue95
  t36 := Try.underlying96
  a36 := Try.isAgg96
  z36 := Try.sizeOf96
  v36 := Try.zeroValue96
  t41 := Try.underlying101
  a41 := Try.isAgg101
  z41 := Try.sizeOf101
  v41 := Try.zeroValue101
  t44 := Try.underlying22
  a44 := Try.isAgg22
  z44 := Try.sizeOf22
  v44 := Try.zeroValue22
  t46 := Try.underlying54
  a46 := Try.isAgg54
  z46 := Try.sizeOf54
  v46 := Try.zeroValue54
  t53 := Try.underlying104
  a53 := Try.isAgg104
  z53 := Try.sizeOf104
  v53 := Try.zeroValue104
  t57 := Try.underlying108
  a57 := Try.isAgg108
  z57 := Try.sizeOf108
  v57 := Try.zeroValue108
  t63 := Try.underlying110
  a63 := Try.isAgg110
  z63 := Try.sizeOf110
  v63 := Try.zeroValue110
  t64 := Try.underlying111
  a64 := Try.isAgg111
  z64 := Try.sizeOf111
  v64 := Try.zeroValue111 }
def Try.cloneM_ren : Go.Shelf.Ren := ⟨fun | 5 => 47 | 7 => 60 | n => n, fun | 23 => 57 | 25 => 3 | 3 => 37 | 4 => 4 | 20 => 20 | n => n, fun | n => n⟩
theorem Try.cloneM : Go.Proofs.SlLaysW.n5 Try.prog Try.cloneM_ren := {
  mixed := by kernel_rfl
  f5 := ⟨Try.f47.name, by decide, Try.func47.trans (congrArg some (by kernel_rfl))⟩
  f7 := Try.func60.trans (congrArg some (by kernel_rfl))
  t4 := Try.underlying4
  a4 := Try.isAgg4
  z4 := Try.sizeOf4
  v4 := Try.zeroValue4
  t20 := Try.underlying20
  a20 := Try.isAgg20
  z20 := Try.sizeOf20
  v20 := Try.zeroValue20
  t23 := Try.underlying57
  a23 := Try.isAgg57
  z23 := Try.sizeOf57
  v23 := Try.zeroValue57 }
end Go.Proofs

/-
  maps.Clone and maps.Copy of maps from units to places.
  Conditions: two maps of the call's own, of not too many units.
-/
set_option linter.unusedVariables false
set_option linter.unusedSimpArgs false
namespace Go.Proofs.Ytincbilobmhgeaa
open Go.RowKit Go.Maps

/-- What maps.Clone answers. -/
theorem mapClone_any (mb N : Nat) (F : Int → Option Pl) (w : World) (h : MapX w mb N F) :
    Calls Try.prog 47 #[.map (some mb)] w fun e w' => e = .returned (.map (some w.heap.size)) ∧ MapX w' w.heap.size N F ∧ Below w.heap.size w w' := by
  obtain ⟨V, D, h⟩ := h
  have hcon := AnyW.maps_Clone_owns Try.cloneM 3 elemP mb N D w h.own
  change Calls Try.prog 47 _ _ _ at hcon
  refine hcon.mono ?_
  rintro e w' ⟨rfl, h1, _, hB⟩
  exact ⟨rfl, ⟨V, D, h1, h.val, h.has_, fun q => (h.pcs q).keep hB⟩, hB⟩

/-- The second's places laid into the first. -/
def orF (Fd Fs : Int → Option Pl) : Int → Option Pl := fun q => (Fs q).or (Fd q)
/-- What is merged of two maps that read as places. -/
theorem merged_map {w w9 : World} {bd nd ns : Nat} {Fd Fs : Int → Option Pl} {Vd Vs : Int → Value} {Dd Ds Dout : DataW Value} {bs : Nat} (hd : MapF w bd nd Fd Vd Dd) (hs : MapF w bs ns Fs Vs Ds)
    {left : Go.Lit → Bool} (hM : Merged Dout Dd Ds left) (hl : ∀ k, left k = false) (ho : Own22 w9 bd (nd + ns) Dout) (hg : w.grownBy w9 (some bd)) : MapX w9 bd (nd + ns) (orF Fd Fs) := by
  obtain ⟨es, cl, hb, _⟩ := hd.own
  have kp : ∀ {u : Value} {ps : List Pc}, PcsAt w u ps → PcsAt w9 u ps := fun hu => ((pcsM_apart hb hu).keepF hg.size fun b hlt hn => hg.block b hlt fun e => hn (Option.some.inj e)).any
  refine ⟨fun q => if (Fs q).isSome = true then Vs q else Vd q, Dout, ho, fun q => ?_, fun q => ?_, fun q => ?_⟩
  · rw [hM.2, hl, hs.has_]
    have e1 := hs.val q
    have e2 := hd.val q
    unfold plF orF at *
    cases hq : Fs q with
    | none =>
      rw [hq] at e1
      simpa using e2
    | some x =>
      rw [hq] at e1
      simpa using e1
  · rw [hM.1, hl, hs.has_, hd.has_]
    unfold orF
    cases hq : Fs q <;> simp
  · have e1 := hs.pcs q
    have e2 := hd.pcs q
    unfold plF orF at *
    cases hq : Fs q with
    | none =>
      rw [hq] at e1
      simpa using kp e2
    | some x =>
      rw [hq] at e1
      simpa using kp e1

set_option maxHeartbeats 4000000 in
set_option maxRecDepth 100000 in
theorem mapCopy_any (bd bs nd ns : Nat) (Fd Fs : Int → Option Pl) (w : World) (hd : MapX w bd nd Fd) (hs : MapX w bs ns Fs) (hne : bd ≠ bs) (hroom : nd + ns ≤ 1000000) :
    Calls Try.prog 48 #[.map (some bd), .map (some bs)] w fun e w' => e = .returned (.tuple #[]) ∧ MapX w' bd (nd + ns) (orF Fd Fs) ∧ w.grownBy w' (some bd) := by
  obtain ⟨Vd, Dd, hd⟩ := hd
  obtain ⟨Vs, Ds, hs⟩ := hs
  have hbd := hd.own.lt
  have hbs := hs.own.lt
  have HD := Lib.hid hd
  have HS := Lib.hid hs
  have HMG := Lib.hid (fun w9 left Dout (hM : Merged Dout Dd Ds left) hl ho hg => merged_map (w9 := w9) hd hs hM hl ho hg)
  have hod := hd.own
  have hos := hs.own
  have HSZ := Lib.hid hos.size_le
  clear hd hs
  go_enter Try.func48, Try.ntmps48
  go_wp2_with (at_range; refine wpList_range_own _ rfl _ 57 rfl 3 37 keyedInt Try.underlying57 elemP bs ns Ds rfl hos ?_; intro w0 hrg0 hg0 hs0)
  go_frame
  have HO0 := Lib.hid (hod.kept hg0 (by simp))
  have HG0 := Lib.hid (hg0.but (some bd))
  obtain ⟨ri, hri⟩ : ∃ ri, w.heap.size = ri := ⟨_, rfl⟩
  rw [hri] at hrg0 ⊢
  have HRG0 := Lib.hid hrg0
  have HRI := Lib.hid hri
  obtain ⟨sz, hsz⟩ : ∃ sz, size Ds = sz := ⟨_, rfl⟩
  rw [hsz] at HSZ HRG0
  clear hrg0 hg0 hs0 hod hos hri
  go_loopw [8] (fun _ wr => ∃ (left : Go.Lit → Bool) (cnt : Nat) (Dout : DataW Value), wr.ranges Try.prog 3 elemP bs ri ns Ds left cnt ∧ cnt ≤ sz ∧
      Own22 wr bd (nd + (sz - cnt)) Dout ∧ Merged Dout Dd Ds left ∧ w.grownBy wr (some bd))
    (fun _ wr => wr.rangeLeft bs ri)
  case atStart => exact ⟨_, _, Dd, HRG0.out, Nat.le_refl _, HO0.out.mono (by omega), merged_start Dd Ds, HG0.out⟩
  case round =>
    obtain ⟨left, cnt, Dout, hrg, hcs, hout, hM, hgw⟩ := hrel
    have HRG := Lib.hid hrg
    have HOUT := Lib.hid hout
    have HM := Lib.hid hM
    have HGW := Lib.hid hgw
    have HCS := Lib.hid hcs
    clear hout hM hgw hcs
    go_wp2_with (at_next; refine wpList_next_ranges _ rfl _ rfl 3 keyedInt elemP (Value.int .i64) id (fun key kl hkey => by obtain ⟨x, rfl, _⟩ := Maps.keyOf_int_inv Try.underlying3 hkey; exact ⟨x, rfl⟩) (fun v y hv => ⟨v, rfl⟩) bs ri ns _ _ _ rfl hrg ?_ ?_)
    · intro hc0 hl0
      have HL0 := Lib.hid hl0
      clear hl0 hrg hc0
      go_wp2
      go_end0
      exact ⟨rfl, HMG.out wr left Dout HM.out HL0.out (HOUT.out.mono (by have := HCS.out; have := HSZ.out; omega)) HGW.out, HGW.out⟩
    · intro q cval kl y y' w3 cnt1 hkey hlx hR hat hrg1 hlt1 hg3 hs3 hen
      obtain ⟨q', e1, hkl, hwf⟩ := Maps.keyOf_int_inv Try.underlying3 hkey
      injection e1 with _ e1
      subst e1
      subst hkl
      have hcv : cval = plA (Vs q) (plF Fs q) := by
        have h1 := hat (.held zeroPA)
        rw [HS.out.val q] at h1
        obtain ⟨h2, -⟩ := Prod.mk.inj (Option.some.inj hR)
        exact (DataW.held.inj (h1.trans h2.symm)).symm
      have hyd : y = .held cval := (Prod.mk.inj (Option.some.inj hR)).1.symm
      obtain ⟨A, c, hv⟩ := (HS.out.pcs q).form
      rw [hv] at hcv
      unfold plA at hcv
      obtain ⟨z, hz⟩ : ∃ z, plF Fs q = z := ⟨_, rfl⟩
      rw [hz] at hcv
      obtain ⟨n, hn⟩ : ∃ n, z.ps.length = n := ⟨_, rfl⟩
      rw [hn] at hcv
      subst hcv
      subst hyd
      have hout3 : Own22 w3 bd _ _ := HOUT.out.kept hg3 (fun e => by have := Option.some.inj e; have := HRI.out; omega)
      obtain ⟨w4, Y, hw4, hY, hYl, hb4, hyb⟩ := box_any w3 #[.int .i64 z.u, .int .i64 z.s, .int .i64 z.c, .slice A n c] 37
      obtain ⟨p0, p1, p2, p3⟩ := four_heads hyb
      have hrg4 := hrg1.alloc (.cells #[.int .i64 z.u, .int .i64 z.s, .int .i64 z.c, .slice A n c] 37)
      rw [hw4] at hrg4
      have hout4 := hout3.alloc (.cells #[.int .i64 z.u, .int .i64 z.s, .int .i64 z.c, .slice A n c] 37)
      rw [hw4] at hout4
      have HG4 : Hid (w.grownBy w4 (some bd)) := Lib.hid (by
        rw [← hw4]
        exact (HGW.out.andThen hg3 (fun j hj => .inl (by cases hj; have := HRI.out; omega))).andThen (World.grownBy_alloc w3 _ none) (fun j hj => by cases hj))
      have HRG4 := Lib.hid hrg4
      have HLT := Lib.hid hlt1
      have HMS := Lib.hid (merged_step (left := left) (Dout := Dout) (Dd := Dd) (Ds := Ds) HM.out HOUT.out.isMap (keyLit_int q) hat)
      have HMX := Lib.hid (show nd + (sz - cnt) < maxLen by have := HSZ.out; unfold maxLen; omega)
      clear hlx hR hat hrg1 hg3 hs3 hout3 hb4 hyb hz hrg4 hlt1 hwf hn
      go_wp2_with (at_mapUpdate; refine wpList_mapUpdate_own _ rfl _ _ _ 57 rfl 3 37 keyedInt Try.underlying57 elemP bd _ _ rfl hout4 HMX.out _ _ _ rfl rfl hkey _ [] rfl ?_; intro w5 hout5 hg5; go_frame)
      have hrg5 := HRG4.out.kept hg5 (fun e => hne (Option.some.inj e).symm) (fun e => by have := Option.some.inj e; have := HRI.out; omega)
      have HO5 := Lib.hid hout5
      have HG5 := Lib.hid (HG4.out.andThen hg5 (fun j hj => .inr hj))
      clear hout5 hg5
      go_roundw
      case rel => exact ⟨_, cnt1, _, hrg5, by have := HLT.out; have := HCS.out; omega, HO5.out.mono (by have := HLT.out; have := HCS.out; omega), HMS.out, HG5.out⟩
      case measure => rw [hrg5.left_eq, HRG.out.left_eq]; exact HLT.out
end Go.Proofs.Ytincbilobmhgeaa

/-
  A slice that reads as a list of ints; what calls answer.
  Conditions: none.
-/
set_option linter.unusedVariables false
namespace Go.Proofs.Ytincbilobmhgeaa
open Go.RowKit

/-- The slice value 'v' reads as the numbers 'xs'; it lies in memory that is there. -/
def IntsAt (W : World) (v : Value) (xs : List Int) : Prop :=
  ∃ A c, v = .slice A xs.length c ∧ xs.length ≤ 9223372036854775807 ∧
    (0 < xs.length → ∃ b off, A = some ⟨b, off, none⟩ ∧ b < W.heap.size ∧ ∀ (j : Nat) (x : Int), xs[j]? = some x → W.cell? ⟨b, off + j, none⟩ = some (.int .i64 x))

theorem IntsAt.nil (W : World) : IntsAt W (.slice none 0 0) [] := ⟨none, 0, rfl, by decide, fun h => absurd h (by decide)⟩

theorem IntsAt.keep {W W' : World} {v : Value} {xs : List Int} (h : IntsAt W v xs) (hb : Below W.heap.size W W') : IntsAt W' v xs := by
  obtain ⟨A, c, h1, h2, h3⟩ := h
  refine ⟨A, c, h1, h2, fun hn => ?_⟩
  obtain ⟨b, off, e, hlt, hc⟩ := h3 hn
  exact ⟨b, off, e, Nat.lt_of_lt_of_le hlt hb.size, fun j x hx => (hb.cell (p := ⟨b, off + j, none⟩) hlt).trans (hc j x hx)⟩
end Go.Proofs.Ytincbilobmhgeaa

/-
  A row of ints that the call made: read, stored into, kept; a call in a region that draws.
  Conditions: none.
-/
set_option linter.unusedVariables false
namespace Go.Proofs.Ytincbilobmhgeaa
open Go.RowKit

/-- All 0. -/
def zeros (n : Nat) : List Int := List.replicate n 0

def rowOf (xs : List Int) : Array Value := (xs.map (Value.int .i64)).toArray
/-- Block g is just the numbers xs, none frozen. -/
def RowAt (W : World) (g : Nat) (xs : List Int) : Prop := W.heap[g]? = some (.cells (rowOf xs) 3 (0, 0))

theorem rowOf_get (xs : List Int) (j : Nat) : (rowOf xs)[j]? = (xs[j]?).map (Value.int .i64) := by simp [rowOf]
theorem rowOf_set (xs : List Int) (j : Nat) (x : Int) : (rowOf xs).setIfInBounds j (.int .i64 x) = rowOf (xs.set j x) := by
  simp [rowOf, List.map_set]

theorem RowAt.lt {W : World} {g : Nat} {xs : List Int} (h : RowAt W g xs) : g < W.heap.size := by
  rcases Nat.lt_or_ge g W.heap.size with hlt | hge
  · exact hlt
  · unfold RowAt at h; rw [Array.getElem?_eq_none hge] at h; cases h
theorem RowAt.cell {W : World} {g : Nat} {xs : List Int} (h : RowAt W g xs) {j : Nat} {x : Int} (hx : xs[j]? = some x) : W.cell? ⟨g, j, none⟩ = some (.int .i64 x) := by
  rw [cell_of_row W g j _ _ (0, 0) h, rowOf_get, hx]; rfl
theorem RowAt.frozen {W : World} {g : Nat} {xs : List Int} (h : RowAt W g xs) (j : Nat) : W.frozen? ⟨g, j, none⟩ = false := by
  unfold RowAt at h
  simp [World.frozen?, h]
theorem RowAt.drewN {W : World} {g : Nat} {xs : List Int} (h : RowAt W g xs) (n : Nat) : RowAt (W.drewN n) g xs := h
theorem RowAt.alloc {W : World} {g : Nat} {xs : List Int} (h : RowAt W g xs) (o : Obj) : RowAt (W.alloc o) g xs := (Below.heap_alloc W o g h.lt).trans h
theorem RowAt.set_ {W : World} {g : Nat} {xs : List Int} (h : RowAt W g xs) (j : Nat) (x : Int) : RowAt (W.setCell ⟨g, j, none⟩ (.int .i64 x)) g (xs.set j x) := by
  unfold RowAt at h ⊢
  rw [← rowOf_set]
  simp [World.setCell, Array.getElem?_modify, h]
theorem RowAt.far {W : World} {g : Nat} {xs : List Int} (h : RowAt W g xs) {p : Addr} (hp : g ≠ p.block) (u : Value) : RowAt (W.setCell p u) g xs := (Below.heap_setCell W p u g hp).trans h
theorem RowAt.below {B : Nat} {W W' : World} {g : Nat} {xs : List Int} (h : RowAt W g xs) (hb : Below B W W') (hg : g < B) : RowAt W' g xs := (hb.block g hg).trans h
theorem RowAt.ints {W : World} {g : Nat} {xs : List Int} (h : RowAt W g xs) (hl : xs.length ≤ 9223372036854775807) (c : Nat) : IntsAt W (.slice (some ⟨g, 0, none⟩) xs.length c) xs :=
  ⟨_, _, rfl, hl, fun _ => ⟨g, 0, rfl, h.lt, fun j x hx => by rw [Nat.zero_add]; exact h.cell hx⟩⟩

theorem madeCells_one (z : Value) (n : Nat) : madeCells #[z] n = (List.replicate n z).toArray := by
  apply Array.toList_inj.1
  rw [List.toList_toArray]
  apply List.ext_getElem?
  intro j
  by_cases hj : j < n
  · simp [madeCells, hj, Nat.mod_one]
  · simp [madeCells, hj]

/-- make([]int, n). -/
theorem mk_ints (W : World) (n : Nat) (h : n ≤ 1000) : (Instr.makeSlice 29 (.int .i64 (n : Int)) (.int .i64 (n : Int))).run Try.prog W = .ok (.slice (some ⟨W.heap.size, 0, none⟩) n n) (W.alloc (.cells (rowOf (zeros n)) 3)) := by
  obtain ⟨i, hi, e⟩ := Option.map_eq_some_iff.1 Try.infoInt
  simp only [Prod.mk.injEq] at e
  obtain ⟨e1, e2, e3⟩ := e
  have hr := run_make (P := Try.prog) W 29 3 i (.int .i64 0) Try.underlying29 hi e1 .i64 .i64 n n (by omega) (Int.le_refl _) (by rw [e3]; omega) (by omega)
  rw [hr, e2]
  simp only [Int.toNat_natCast, Nat.mul_one]
  rw [show (Value.int .i64 0).cells = #[.int .i64 0] from rfl, madeCells_one]
  simp [rowOf, zeros]

theorem quiet_ret {P : Program} {f : FuncId} {args : Array Value} {w : World} {n : Nat} {v : Value} (h : Calls P f args (w.drewN n) (Ret v (w.drewN n))) :
    Calls P f args (w.drewN n) fun e w'' => e = .returned v ∧ ∃ m, w'' = w.drewN m := h.mono fun _ _ ⟨he, hm⟩ => ⟨he, n, hm.symm⟩

theorem RowAt.new (W : World) (xs : List Int) : RowAt (W.alloc (.cells (rowOf xs) 3)) W.heap.size xs := heap_alloc_new W _
theorem rowAt_pushed {W W' : World} {xs : List Int} (h : W' = W.alloc (.cells (rowOf xs) 3)) : RowAt W' W.heap.size xs := by subst h; exact RowAt.new W xs
end Go.Proofs.Ytincbilobmhgeaa
