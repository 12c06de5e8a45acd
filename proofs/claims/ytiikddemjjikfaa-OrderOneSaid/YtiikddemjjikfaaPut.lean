/-
  Put and Without of the program.
  Conditions: the slice reads as wants.
-/
import Derived.Test.YtiikddemjjikfaaSort
import Derived.Test.YtiikddemjjikfaaInsert
import Derived.Test.YtiikddemjjikfaaChecks
set_option linter.unusedVariables false
namespace Go.Proofs.Ytiikddemjjikfaa
open Go.RowKit

theorem own_block_lt {W : World} {base e size n : Nat} {v : Value} {xs : List Value} (h : W.ownsRow base e size v n xs) : ∀ k, v.ownBlock = some k → k < W.heap.size := by
  intro k hk
  rcases h.2 with ⟨h1, _⟩ | ⟨g, cap, cur, h1, _, h3, _⟩
  · subst h1; cases hk
  · subst h1; cases hk; exact (Array.getElem?_eq_some_iff.1 h3).1
theorem first_ahead {x : Sp} {l : List Sp} {r : Int} (h : FirstOf (fun s => aheadB x s) l r) : (r = -1 ∧ FirstAhead x l l.length) ∨ ∃ k : Nat, r = k ∧ k ≤ l.length ∧ FirstAhead x l k := by
  rcases h with ⟨rfl, h⟩ | ⟨k, s, rfl, hk, hs, hall⟩
  · exact .inl ⟨rfl, Nat.le_refl _, fun j y _ hy => h y (List.mem_of_getElem? hy), fun y hy => by rw [List.getElem?_eq_none (Nat.le_refl _)] at hy; cases hy⟩
  · have hlt := (List.getElem?_eq_some_iff.1 hk).1
    refine .inr ⟨k, rfl, by omega, by omega, fun j y hj hy => hall j y hj hy, fun y hy => ?_⟩
    rw [hk] at hy
    cases hy
    exact hs

theorem putPred_any (x : Sp) (B : Nat) (p : Sp) (W : World) (hB : B < W.heap.size) (h0 : W.cell? ⟨B, 0, none⟩ = some (.int .i64 x.1)) (h1 : W.cell? ⟨B, 1, none⟩ = some (.int .i64 x.2)) :
    Calls Try.prog 34 #[.agg #[.int .i64 p.1, .int .i64 p.2], .pointer (some ⟨B, 0, none⟩)] W (RetB (.bool (aheadB x p)) W) := by
  have HA := Lib.hid (fun W => ahead_any x p W)
  obtain ⟨p1, p2⟩ := p
  obtain ⟨x1, x2⟩ := x
  simp only at h0 h1 HA
  have hne : B ≠ W.heap.size := by omega
  generalize aheadB (x1, x2) (p1, p2) = r at *
  go_enter Try.func34, Try.ntmps34
  go_wp2_with (go_at_call 23; refine (HA.out _).mono ?_; rintro e w' ⟨rfl, hb⟩)
  go_ret
  exact ⟨rfl, ((Below.refl _ _).alloc (Nat.le_refl _) _).trans (hb.mono (by simp))⟩

theorem box_cells (w : World) (x : Sp) (t : Nat) {w' : World} (h : Below (w.alloc (.cells #[.int .i64 x.1, .int .i64 x.2] t)).heap.size (w.alloc (.cells #[.int .i64 x.1, .int .i64 x.2] t)) w') :
    w'.cell? ⟨w.heap.size, 0, none⟩ = some (.int .i64 x.1) ∧ w'.cell? ⟨w.heap.size, 1, none⟩ = some (.int .i64 x.2) ∧ w.heap.size < w'.heap.size := by
  have hs := h.size
  have e : (w.alloc (.cells #[.int .i64 x.1, .int .i64 x.2] t)).heap.size = w.heap.size + 1 := by simp
  refine ⟨(h.cell (p := ⟨w.heap.size, 0, none⟩) (by simp)).trans (by simp), (h.cell (p := ⟨w.heap.size, 1, none⟩) (by simp)).trans (by simp), by omega⟩

set_option maxRecDepth 100000 in
set_option maxHeartbeats 2000000 in
theorem put_any (v : Value) (ps : List Sp) (x : Sp) (w : World) (h : SpansAt w v ps) (hl : ps.length ≤ 1000) :
    Calls Try.prog 19 #[v, .agg #[.int .i64 x.1, .int .i64 x.2]] w (RetO w.heap.size 38 (putT x (sortT ps)) w) := by
  have eg : ∀ args w, (callFunc 34 args).run Try.prog w = .ok (.enter 34 args) w := enters_of Try.func34 (by kernel_rfl) rfl
  have hb0 : Below w.heap.size w (w.alloc (.cells #[.int .i64 x.1, .int .i64 x.2] 38)) := (Below.refl _ _).alloc (Nat.le_refl _) _
  have HB0 := Lib.hid hb0
  have HC := Lib.hid (sort_any v ps _ (h.keep hb0))
  have HBOX := Lib.hid (fun w' hb => box_cells w x 38 (w' := w') hb)
  have hz : (w.alloc (.cells #[.int .i64 x.1, .int .i64 x.2] 38)).heap.size = w.heap.size + 1 := by simp
  have hsl := sortT_length ps
  generalize sortT ps = qs at *
  have hql : qs.length ≤ 1000 := by omega
  clear h hb0 hsl
  have HPUT := Lib.hid (fun k hk => put_at x (l := qs) (k := k) hk)
  have HPRED : Hid (∀ w1, Below (w.heap.size + 1) (w.alloc (.cells #[.int .i64 x.1, .int .i64 x.2] 38)) w1 → w.heap.size + 1 ≤ w1.heap.size → PredS 34 #[.pointer (some ⟨w.heap.size, 0, none⟩)] (fun s => aheadB x s) w1) := fun w1 hw1 hs1 W p hb => by
    obtain ⟨g0, g1, g2⟩ := HBOX.out W (by rw [hz]; exact hw1.trans (hb.mono hs1))
    exact putPred_any x w.heap.size p W g2 g0 g1
  have HINS := Lib.hid (fun base v k vb w h hk hbase hv hne => insert_any base v qs k x vb w h hk hql hbase hv hne)
  have HIDX := Lib.hid (fun v w' hp h => index_any 34 #[.pointer (some ⟨w.heap.size, 0, none⟩)] eg (fun s => aheadB x s) v qs w' hp h)
  obtain ⟨x1, x2⟩ := x
  simp only at HC HB0 HBOX HPRED HINS
  go_enter Try.func19, Try.ntmps19
  go_wp2_with fail
  refine HC.out.mono ?_
  rintro e w1 ⟨v1, rfl, hown1, hb1⟩
  rw [show (w.alloc (.cells #[.int .i64 x1, .int .i64 x2] 38)).heap.size = w.heap.size + 1 by simp] at hown1 hb1
  have hs1 : w.heap.size + 1 ≤ w1.heap.size := by have := hb1.size; simp at this; omega
  have HO1 := Lib.hid hown1
  have HB1 := Lib.hid hb1
  clear hown1 hb1
  have HI1 := Lib.hid (HIDX.out v1 w1 (HPRED.out w1 HB1.out hs1) (spans_of_own HO1.out (by omega)))
  clear HC HIDX HPRED
  go_wp2_with fail
  refine HI1.out.mono ?_
  rintro e w2 ⟨r, rfl, hr, hb2⟩
  have hr2 := first_ahead hr
  have HO2 := Lib.hid (own_below5 HO1.out hb2)
  have HB2 := Lib.hid (HB1.out.trans (hb2.mono hs1))
  have hs2 : w1.heap.size ≤ w2.heap.size := hb2.size
  obtain ⟨c0, c1, c2⟩ := HBOX.out w2 (by simpa using HB2.out)
  have HNE := Lib.hid (fun k hk => own_block_lt HO1.out k hk)
  have HW3 : Hid (Below (w.heap.size + 1) w2 (w2.alloc (.cells #[.int .i64 x1, .int .i64 x2] 38))) := (Below.refl _ _).alloc (by omega) _
  have HV3 : Hid ((w2.alloc (.cells #[.int .i64 x1, .int .i64 x2] 38)).heap[w2.heap.size]? = some (.cells #[.int .i64 x1, .int .i64 x2] 38 (0, 0))) := heap_alloc_new w2 _
  have hsx : (w2.alloc (.cells #[.int .i64 x1, .int .i64 x2] 38)).heap.size = w2.heap.size + 1 := by simp
  have HI2 : Hid (∀ k, FirstAhead (x1, x2) qs k → Calls Try.prog 35 #[v1, .int .i64 k, .slice (some ⟨w2.heap.size, 0, none⟩) 1 1] (w2.alloc (.cells #[.int .i64 x1, .int .i64 x2] 38)) (RetO (w.heap.size + 1) 38 (putT (x1, x2) qs) (w2.alloc (.cells #[.int .i64 x1, .int .i64 x2] 38)))) := fun k hk => by
    rw [HPUT.out k hk]
    exact HINS.out _ v1 k w2.heap.size _ (own_below5 HO2.out ((Below.refl _ _).alloc (Nat.le_refl _) _)) hk.1 (by omega) HV3.out (fun e => by have := HNE.out _ e; omega)
  have HLN := Lib.hid (own_form HO2.out)
  clear hr hb2 HI1 hsx
  rcases hr2 with ⟨rfl, hf⟩ | ⟨k, rfl, hkl, hf⟩
  · have HF := Lib.hid (HI2.out _ hf)
    clear HI2 hf
    obtain ⟨A, c, rfl⟩ := HLN.out
    generalize hq : qs.length = q at *
    go_wp2_with (go_at_call 35; refine HF.out.mono ?_; rintro e w4 ⟨v4, rfl, hown4, hb4⟩)
    go_ret
    exact ⟨_, rfl, own_mono5 hown4 (by omega), HB0.out.trans ((HB2.out.trans (HW3.out.trans hb4)).mono (by omega))⟩
  · have HF := Lib.hid (HI2.out _ hf)
    clear HI2 hf
    have hk0 : ¬ (k : Int) < 0 := by omega
    go_wp2_with (go_at_call 35; refine HF.out.mono ?_; rintro e w4 ⟨v4, rfl, hown4, hb4⟩)
    go_ret
    exact ⟨_, rfl, own_mono5 hown4 (by omega), HB0.out.trans ((HB2.out.trans (HW3.out.trans hb4)).mono (by omega))⟩

theorem withoutPred_any (u : Int) (B : Nat) (p : Sp) (W : World) (hB : B < W.heap.size) (hc : W.cell? ⟨B, 0, none⟩ = some (.int .i64 u)) :
    Calls Try.prog 37 #[.agg #[.int .i64 p.1, .int .i64 p.2], .pointer (some ⟨B, 0, none⟩)] W (RetB (.bool (decide (p.1 = u))) W) := by
  obtain ⟨a, b⟩ := p
  simp only
  have hne : B ≠ W.heap.size := by omega
  have hd : (a == u) = decide (a = u) := by by_cases h : a = u <;> simp [h]
  go_enter Try.func37, Try.ntmps37
  go_wp2
  all_goals go_ret
  all_goals exact ⟨by simp_all, (Below.refl _ _).alloc (Nat.le_refl _) _⟩

set_option maxRecDepth 100000 in
set_option maxHeartbeats 2000000 in
theorem without_any (v : Value) (ps : List Sp) (u : Int) (w : World) (h : SpansAt w v ps) :
    Calls Try.prog 21 #[v, .int .i64 u] w (RetO w.heap.size 38 (withoutT u ps) w) := by
  have eg : ∀ args w, (callFunc 37 args).run Try.prog w = .ok (.enter 37 args) w := enters_of Try.func37 (by kernel_rfl) rfl
  have hb0 : Below w.heap.size w (w.alloc (.cells #[.int .i64 u] 3)) := (Below.refl _ _).alloc (Nat.le_refl _) _
  have HB0 := Lib.hid hb0
  have HC := Lib.hid (clone_any v ps _ (h.keep hb0))
  have HL := Lib.hid h.len
  clear h hb0
  go_enter Try.func21, Try.ntmps21
  go_wp2_with fail
  refine HC.out.mono ?_
  rintro e w1 ⟨v1, rfl, hown1, hb1⟩
  rw [show (w.alloc (.cells #[.int .i64 u] 3)).heap.size = w.heap.size + 1 by simp] at hown1 hb1
  have hs1 : w.heap.size + 1 ≤ w1.heap.size := by have := hb1.size; simp at this; omega
  have HB1 := Lib.hid hb1
  have HD := Lib.hid (delete_any 37 #[.pointer (some ⟨w.heap.size, 0, none⟩)] eg (fun s => !decide (s.1 = u)) (w.heap.size + 1) v1 ps w1 (fun W p hb hbs => by
    have hh := withoutPred_any u w.heap.size p W (by omega) (((HB1.out.trans hb).cell (p := ⟨w.heap.size, 0, none⟩) (by simp)).trans (by simp))
    rw [Bool.not_not]
    exact hh) hown1 HL.out hs1)
  clear hown1 hb1 HC
  go_wp2_with fail
  refine HD.out.mono ?_
  rintro e w2 ⟨v2, rfl, hown2, hb2⟩
  have HO2 := Lib.hid hown2
  have HB2 := Lib.hid hb2
  clear hown2 hb2
  go_wp2
  go_ret
  exact ⟨_, rfl, own_mono5 HO2.out (by omega), HB0.out.trans ((HB1.out.trans HB2.out).mono (by omega))⟩
end Go.Proofs.Ytiikddemjjikfaa
