/-
  slices.IsSortedFunc of places by their units, and rightUnits of the program.
  Conditions: the slice reads as places; the numbers are of their kinds.
-/
import Derived.Test.YtpfpojehcjmfnaaGreatT07
import Derived.Test.YtpfpojehcjmfnaaGreatT09
import Derived.Test.YtpfpojehcjmfnaaGreatT10

/-
  slices.IsSortedFunc of places by their units, and rightUnits of the program.
  Conditions: the slice reads as places; the numbers are of their kinds.
-/
set_option linter.unusedVariables false
set_option linter.unusedSimpArgs false
namespace Go.Proofs.YtpfpojehcjmfnaaGreat
open Go.RowKit Go.Sort

theorem cmp_neg {a b : Int} (h : a < b) : cmpI a b = -1 := if_pos h
theorem cmp_nonneg {a b : Int} (h : ¬ a < b) : 0 ≤ cmpI a b := by
  unfold cmpI
  rw [if_neg h]
  split <;> decide

set_option maxRecDepth 100000 in
set_option maxHeartbeats 4000000 in
theorem isSorted_any (v : Value) (l : List Pl) (w : World) (h : PlsAt w v l) (hl : l.length ≤ 1000) :
    Calls Tryz.prog 143 #[v, .func (.func 129) #[] #[]] w (RetIff (Rises l) w) := by
  have eg : ∀ args w, (callFunc 129 args).run Tryz.prog w = .ok (.enter 129 args) w := enters_of Tryz.func129 (by kernel_rfl) rfl
  have HCU := Lib.hid (fun v v' x y W => compareUnits_any v v' x y W)
  unfold plA at HCU
  obtain ⟨A, cA, rfl, hlc, hcm⟩ := h.form
  have HL := Lib.hid h
  obtain ⟨n, hn⟩ : ∃ n, l.length = n := ⟨_, rfl⟩
  rw [hn] at HL hlc hl ⊢
  have HN := Lib.hid hn
  have mixed : Tryz.prog.follows .mixedOrders = true := by kernel_rfl
  clear h hn
  go_enter Tryz.func143, Tryz.ntmps143
  go_wp2_with fail
  go_loopg [5] n (fun gg s5 wr => ∃ (i : Int), -1 ≤ i ∧ i < (n : Int) ∧ gg = (i + 1).toNat ∧ s5 = .int .i64 i ∧ Hid (∀ (j : Nat) (x y : Pl), i ≤ (j : Int) → l[j]? = some x → l[j + 1]? = some y → x.u ≤ y.u) ∧ Below w.heap.size w wr)
  case atStart => exact ⟨_, by omega, by omega, by omega, rfl, fun j x y h hx hy => by have := (List.getElem?_eq_some_iff.1 hy).1; have := HN.out; omega, Below.refl _ _⟩
  case round =>
    obtain ⟨i, hi1, hi2, hg, rfl, HR, hbw⟩ := hrel
    have HG := Lib.hid hg
    have HB := Lib.hid hbw
    have HLR := Lib.hid (HL.out.keep hbw)
    clear hg hbw
    by_cases hpos : 0 < i
    · obtain ⟨k, rfl⟩ : ∃ k : Nat, i = (k : Int) := ⟨i.toNat, by omega⟩
      obtain ⟨k1, hk1⟩ : ∃ k1, k = k1 + 1 := ⟨k - 1, by omega⟩
      have hkn : (k : Int) < (n : Int) := hi2
      have hk0 : (0 : Int) ≤ (k : Int) := by omega
      have hk1z : (k1 : Int) < (n : Int) := by omega
      have hk10 : (0 : Int) ≤ (k1 : Int) := by omega
      have hkk : (k : Int) - 1 = (k1 : Int) := by omega
      have hw64 : IntKind.i64.wrap (k1 : Int) = (k1 : Int) := IntWalk.i64_in _ (by omega)
      obtain ⟨y, hy⟩ := exP_at (xs := l) (k := k) (by rw [HN.out]; omega)
      obtain ⟨x, hx⟩ := exP_at (xs := l) (k := k1) (by rw [HN.out]; omega)
      obtain ⟨b, off, B, d, hA, hbl, _, ⟨c0, c1, c2, c3⟩, _⟩ := HLR.out.at_ hy
      subst hA
      obtain ⟨b', off', B', d', hA', _, _, ⟨e0, e1, e2, e3⟩, _⟩ := HLR.out.at_ hx
      injection hA' with hA'
      injection hA' with hA' hA''
      subst hA' hA''
      simp only at c0 c1 c2 c3 e0 e1 e2 e3
      have HXY := Lib.hid (show Rises l → x.u ≤ y.u from fun h => h k1 x y hx (by rw [← hk1]; exact hy))
      have HNX : Hid (x.u ≤ y.u → ∀ (j : Nat) (x y : Pl), (k1 : Int) ≤ (j : Int) → l[j]? = some x → l[j + 1]? = some y → x.u ≤ y.u) := fun hle j x' y' hj hx' hy' => by
        by_cases e : j = k1
        · subst e
          rw [hx] at hx'
          rw [← hk1, hy] at hy'
          cases hx'; cases hy'
          exact hle
        · exact HR j x' y' (by omega) hx' hy'
      obtain ⟨yu, ys, yc, yp⟩ := y
      obtain ⟨xu, xs, xc, xp⟩ := x
      simp only at *
      have HC := Lib.hid (fun W => HCU.out (.slice B yp.length d) (.slice B' xp.length d') ⟨yu, ys, yc, yp⟩ ⟨xu, xs, xc, xp⟩ W)
      simp only at HC
      obtain ⟨np, hnp⟩ : ∃ np, yp.length = np := ⟨_, rfl⟩
      obtain ⟨nq, hnq⟩ : ∃ nq, xp.length = nq := ⟨_, rfl⟩
      rw [hnp] at c3 HC
      rw [hnq] at e3 HC
      have lb := hbl
      have HKL := Lib.hid hk1
      clear hk1 hx hy hnp hnq
      by_cases hlt : yu < xu
      · rw [cmp_neg hlt] at HC
        have HNO := Lib.hid (show ¬ Rises l from fun h => by have := HXY.out h; omega)
        clear hlt
        go_wp2_with fail
        refine wp_region_held_drew (S := fun w' => w'.cell? ⟨b, off + k * 4, none⟩ = some (.int .i64 yu) ∧ w'.cell? ⟨b, off + k * 4 + 1, none⟩ = some (.int .i64 ys) ∧ w'.cell? ⟨b, off + k * 4 + 2, none⟩ = some (.int .i64 yc) ∧ w'.cell? ⟨b, off + k * 4 + 3, none⟩ = some (.slice B np d) ∧ w'.cell? ⟨b, off + k1 * 4, none⟩ = some (.int .i64 xu) ∧ w'.cell? ⟨b, off + k1 * 4 + 1, none⟩ = some (.int .i64 xs) ∧ w'.cell? ⟨b, off + k1 * 4 + 2, none⟩ = some (.int .i64 xc) ∧ w'.cell? ⟨b, off + k1 * 4 + 3, none⟩ = some ((.slice B' nq d'))) (by kernel_rfl) ?_ (fun hHeld => ?_)
        · exact ⟨c0, c1, c2, c3, e0, e1, e2, e3⟩
        refine wpAnyH_take (i := 0) (oi := ⟨some 13, _, _, _, _, _⟩) (v := ?_) rfl (by kernel_rfl) (by kernel_rfl) (by kernel_rfl) (fun _ _ _ h => h) (Or.inl ⟨by kernel_rfl, ?_⟩) (by assumption) ?_
        rotate_left
        · (intro w hSw; (try dsimp only at hSw); go_simp; try with_reducible rfl)
        (try simp only [Act.put, List.setIfInBounds_toArray, List.set_cons_zero, List.set_cons_succ])
        refine wpAnyH_take (i := 1) (oi := ⟨some 14, _, _, _, _, _⟩) (v := ?_) rfl (by kernel_rfl) (by kernel_rfl) (by kernel_rfl) (fun _ _ _ h => h) (Or.inl ⟨by kernel_rfl, ?_⟩) (by assumption) ?_
        rotate_left
        · (intro w hSw; (try dsimp only at hSw); go_simp; try with_reducible rfl)
        (try simp only [Act.put, List.setIfInBounds_toArray, List.set_cons_zero, List.set_cons_succ])
        refine wpAnyH_take (i := 2) (oi := ⟨some 15, _, _, _, _, _⟩) (v := ?_) rfl (by kernel_rfl) (by kernel_rfl) (by kernel_rfl) (fun _ _ _ h => h) (Or.inl ⟨by kernel_rfl, ?_⟩) (by assumption) ?_
        rotate_left
        · (intro w hSw; (try dsimp only at hSw); go_simp; try with_reducible rfl)
        (try simp only [Act.put, List.setIfInBounds_toArray, List.set_cons_zero, List.set_cons_succ])
        refine wpAnyH_take (i := 3) (oi := ⟨some 16, _, _, _, _, _⟩) (v := ?_) rfl (by kernel_rfl) (by kernel_rfl) (by kernel_rfl) (fun _ _ _ h => h) (Or.inl ⟨by kernel_rfl, ?_⟩) (by assumption) ?_
        rotate_left
        · (intro w hSw; (try dsimp only at hSw); go_simp; try with_reducible rfl)
        (try simp only [Act.put, List.setIfInBounds_toArray, List.set_cons_zero, List.set_cons_succ])
        refine wpAnyH_take (i := 4) (oi := ⟨some 17, _, _, _, _, _⟩) (v := ?_) rfl (by kernel_rfl) (by kernel_rfl) (by kernel_rfl) (fun _ _ _ h => h) (Or.inl ⟨by kernel_rfl, ?_⟩) (by assumption) ?_
        rotate_left
        · (intro w hSw; (try dsimp only at hSw); go_simp; try with_reducible rfl)
        (try simp only [Act.put, List.setIfInBounds_toArray, List.set_cons_zero, List.set_cons_succ])
        refine wpAnyH_take (i := 5) (oi := ⟨some 18, _, _, _, _, _⟩) (v := ?_) rfl (by kernel_rfl) (by kernel_rfl) (by kernel_rfl) (fun _ _ _ h => h) (Or.inl ⟨by kernel_rfl, ?_⟩) (by assumption) ?_
        rotate_left
        · (intro w hSw; (try dsimp only at hSw); go_simp; try with_reducible rfl)
        (try simp only [Act.put, List.setIfInBounds_toArray, List.set_cons_zero, List.set_cons_succ])
        refine wpAnyH_take (i := 6) (oi := ⟨some 19, _, _, _, _, _⟩) (v := ?_) rfl (by kernel_rfl) (by kernel_rfl) (by kernel_rfl) (fun _ _ _ h => h) (Or.inl ⟨by kernel_rfl, ?_⟩) (by assumption) ?_
        rotate_left
        · (intro w hSw; (try dsimp only at hSw); go_simp; try with_reducible rfl)
        (try simp only [Act.put, List.setIfInBounds_toArray, List.set_cons_zero, List.set_cons_succ])
        refine wpAnyH_take (i := 7) (oi := ⟨some 20, _, _, _, _, _⟩) (v := ?_) rfl (by kernel_rfl) (by kernel_rfl) (by kernel_rfl) (fun _ _ _ h => h) (Or.inl ⟨by kernel_rfl, ?_⟩) (by assumption) ?_
        rotate_left
        · (intro w hSw; (try dsimp only at hSw); go_simp; try with_reducible rfl)
        (try simp only [Act.put, List.setIfInBounds_toArray, List.set_cons_zero, List.set_cons_succ])
        refine wpAnyH_take (i := 8) (oi := ⟨some 21, _, _, _, _, _⟩) (v := ?_) rfl (by kernel_rfl) (by kernel_rfl) (by kernel_rfl) (fun _ _ _ h => h) (Or.inl ⟨by kernel_rfl, ?_⟩) (by assumption) ?_
        rotate_left
        · (intro w hSw; (try dsimp only at hSw); go_simp; try with_reducible rfl)
        (try simp only [Act.put, List.setIfInBounds_toArray, List.set_cons_zero, List.set_cons_succ])
        refine wpAnyH_take (i := 9) (oi := ⟨some 22, _, _, _, _, _⟩) (v := ?_) rfl (by kernel_rfl) (by kernel_rfl) (by kernel_rfl) (fun _ _ _ h => h) (Or.inl ⟨by kernel_rfl, ?_⟩) (by assumption) ?_
        rotate_left
        · (intro w hSw; (try dsimp only at hSw); go_simp; try with_reducible rfl)
        (try simp only [Act.put, List.setIfInBounds_toArray, List.set_cons_zero, List.set_cons_succ])
        refine wpAnyH_ready (rs := [10]) (by kernel_rfl) (by simp) ?_
        refine AllReadyH.cons (o := ⟨some 23, _, _, _, _, _⟩) rfl (fun K hK => ?_) AllReadyH.nil
        rw [if_pos (by kernel_rfl)]
        go_simp
        go_at_fn 129; refine (HC.out _).mono ?_; rintro e wq ⟨rfl, hbr⟩
        refine hK.out _ _ ?_ (fun hHeld => ?_)
        · exact ⟨(hbr.cell (p := ⟨b, off + k * 4, none⟩) lb).trans c0, (hbr.cell (p := ⟨b, off + k * 4 + 1, none⟩) lb).trans c1, (hbr.cell (p := ⟨b, off + k * 4 + 2, none⟩) lb).trans c2, (hbr.cell (p := ⟨b, off + k * 4 + 3, none⟩) lb).trans c3, (hbr.cell (p := ⟨b, off + k1 * 4, none⟩) lb).trans e0, (hbr.cell (p := ⟨b, off + k1 * 4 + 1, none⟩) lb).trans e1, (hbr.cell (p := ⟨b, off + k1 * 4 + 2, none⟩) lb).trans e2, (hbr.cell (p := ⟨b, off + k1 * 4 + 3, none⟩) lb).trans e3⟩
        clear hK K
        (try simp only [Act.put, List.setIfInBounds_toArray, List.set_cons_zero, List.set_cons_succ])
        refine wpAnyH_take (i := 11) (oi := ⟨some 24, _, _, _, _, _⟩) (v := ?_) rfl (by kernel_rfl) (by kernel_rfl) (by kernel_rfl) (fun _ _ _ h => h) (Or.inl ⟨by kernel_rfl, ?_⟩) (by assumption) ?_
        rotate_left
        · (intro w hSw; (try dsimp only at hSw); go_simp; try with_reducible rfl)
        (try simp only [Act.put, List.setIfInBounds_toArray, List.set_cons_zero, List.set_cons_succ])
        refine wpAnyH_done (by kernel_rfl) ?_ _
        have HB2 := Lib.hid (HB.out.drew.trans (hbr.mono HB.out.size))
        clear hbr
        go_wp2_with fail
        go_ret
        exact RetIff.no HNO.out HB2.out
      · have hcn := cmp_nonneg hlt
        obtain ⟨r, hr⟩ : ∃ r, cmpI yu xu = r := ⟨_, rfl⟩
        rw [hr] at HC hcn
        have hr0 : decide (r < 0) = false := decide_eq_false (by omega)
        have HNX2 : Hid (∀ (j : Nat) (x y : Pl), (k1 : Int) ≤ (j : Int) → l[j]? = some x → l[j + 1]? = some y → x.u ≤ y.u) := HNX (by omega)
        clear hr hlt
        go_wp2_with fail
        refine wp_region_held_drew (S := fun w' => w'.cell? ⟨b, off + k * 4, none⟩ = some (.int .i64 yu) ∧ w'.cell? ⟨b, off + k * 4 + 1, none⟩ = some (.int .i64 ys) ∧ w'.cell? ⟨b, off + k * 4 + 2, none⟩ = some (.int .i64 yc) ∧ w'.cell? ⟨b, off + k * 4 + 3, none⟩ = some (.slice B np d) ∧ w'.cell? ⟨b, off + k1 * 4, none⟩ = some (.int .i64 xu) ∧ w'.cell? ⟨b, off + k1 * 4 + 1, none⟩ = some (.int .i64 xs) ∧ w'.cell? ⟨b, off + k1 * 4 + 2, none⟩ = some (.int .i64 xc) ∧ w'.cell? ⟨b, off + k1 * 4 + 3, none⟩ = some ((.slice B' nq d'))) (by kernel_rfl) ?_ (fun hHeld => ?_)
        · exact ⟨c0, c1, c2, c3, e0, e1, e2, e3⟩
        refine wpAnyH_take (i := 0) (oi := ⟨some 13, _, _, _, _, _⟩) (v := ?_) rfl (by kernel_rfl) (by kernel_rfl) (by kernel_rfl) (fun _ _ _ h => h) (Or.inl ⟨by kernel_rfl, ?_⟩) (by assumption) ?_
        rotate_left
        · (intro w hSw; (try dsimp only at hSw); go_simp; try with_reducible rfl)
        (try simp only [Act.put, List.setIfInBounds_toArray, List.set_cons_zero, List.set_cons_succ])
        refine wpAnyH_take (i := 1) (oi := ⟨some 14, _, _, _, _, _⟩) (v := ?_) rfl (by kernel_rfl) (by kernel_rfl) (by kernel_rfl) (fun _ _ _ h => h) (Or.inl ⟨by kernel_rfl, ?_⟩) (by assumption) ?_
        rotate_left
        · (intro w hSw; (try dsimp only at hSw); go_simp; try with_reducible rfl)
        (try simp only [Act.put, List.setIfInBounds_toArray, List.set_cons_zero, List.set_cons_succ])
        refine wpAnyH_take (i := 2) (oi := ⟨some 15, _, _, _, _, _⟩) (v := ?_) rfl (by kernel_rfl) (by kernel_rfl) (by kernel_rfl) (fun _ _ _ h => h) (Or.inl ⟨by kernel_rfl, ?_⟩) (by assumption) ?_
        rotate_left
        · (intro w hSw; (try dsimp only at hSw); go_simp; try with_reducible rfl)
        (try simp only [Act.put, List.setIfInBounds_toArray, List.set_cons_zero, List.set_cons_succ])
        refine wpAnyH_take (i := 3) (oi := ⟨some 16, _, _, _, _, _⟩) (v := ?_) rfl (by kernel_rfl) (by kernel_rfl) (by kernel_rfl) (fun _ _ _ h => h) (Or.inl ⟨by kernel_rfl, ?_⟩) (by assumption) ?_
        rotate_left
        · (intro w hSw; (try dsimp only at hSw); go_simp; try with_reducible rfl)
        (try simp only [Act.put, List.setIfInBounds_toArray, List.set_cons_zero, List.set_cons_succ])
        refine wpAnyH_take (i := 4) (oi := ⟨some 17, _, _, _, _, _⟩) (v := ?_) rfl (by kernel_rfl) (by kernel_rfl) (by kernel_rfl) (fun _ _ _ h => h) (Or.inl ⟨by kernel_rfl, ?_⟩) (by assumption) ?_
        rotate_left
        · (intro w hSw; (try dsimp only at hSw); go_simp; try with_reducible rfl)
        (try simp only [Act.put, List.setIfInBounds_toArray, List.set_cons_zero, List.set_cons_succ])
        refine wpAnyH_take (i := 5) (oi := ⟨some 18, _, _, _, _, _⟩) (v := ?_) rfl (by kernel_rfl) (by kernel_rfl) (by kernel_rfl) (fun _ _ _ h => h) (Or.inl ⟨by kernel_rfl, ?_⟩) (by assumption) ?_
        rotate_left
        · (intro w hSw; (try dsimp only at hSw); go_simp; try with_reducible rfl)
        (try simp only [Act.put, List.setIfInBounds_toArray, List.set_cons_zero, List.set_cons_succ])
        refine wpAnyH_take (i := 6) (oi := ⟨some 19, _, _, _, _, _⟩) (v := ?_) rfl (by kernel_rfl) (by kernel_rfl) (by kernel_rfl) (fun _ _ _ h => h) (Or.inl ⟨by kernel_rfl, ?_⟩) (by assumption) ?_
        rotate_left
        · (intro w hSw; (try dsimp only at hSw); go_simp; try with_reducible rfl)
        (try simp only [Act.put, List.setIfInBounds_toArray, List.set_cons_zero, List.set_cons_succ])
        refine wpAnyH_take (i := 7) (oi := ⟨some 20, _, _, _, _, _⟩) (v := ?_) rfl (by kernel_rfl) (by kernel_rfl) (by kernel_rfl) (fun _ _ _ h => h) (Or.inl ⟨by kernel_rfl, ?_⟩) (by assumption) ?_
        rotate_left
        · (intro w hSw; (try dsimp only at hSw); go_simp; try with_reducible rfl)
        (try simp only [Act.put, List.setIfInBounds_toArray, List.set_cons_zero, List.set_cons_succ])
        refine wpAnyH_take (i := 8) (oi := ⟨some 21, _, _, _, _, _⟩) (v := ?_) rfl (by kernel_rfl) (by kernel_rfl) (by kernel_rfl) (fun _ _ _ h => h) (Or.inl ⟨by kernel_rfl, ?_⟩) (by assumption) ?_
        rotate_left
        · (intro w hSw; (try dsimp only at hSw); go_simp; try with_reducible rfl)
        (try simp only [Act.put, List.setIfInBounds_toArray, List.set_cons_zero, List.set_cons_succ])
        refine wpAnyH_take (i := 9) (oi := ⟨some 22, _, _, _, _, _⟩) (v := ?_) rfl (by kernel_rfl) (by kernel_rfl) (by kernel_rfl) (fun _ _ _ h => h) (Or.inl ⟨by kernel_rfl, ?_⟩) (by assumption) ?_
        rotate_left
        · (intro w hSw; (try dsimp only at hSw); go_simp; try with_reducible rfl)
        (try simp only [Act.put, List.setIfInBounds_toArray, List.set_cons_zero, List.set_cons_succ])
        refine wpAnyH_ready (rs := [10]) (by kernel_rfl) (by simp) ?_
        refine AllReadyH.cons (o := ⟨some 23, _, _, _, _, _⟩) rfl (fun K hK => ?_) AllReadyH.nil
        rw [if_pos (by kernel_rfl)]
        go_simp
        go_at_fn 129; refine (HC.out _).mono ?_; rintro e wq ⟨rfl, hbr⟩
        refine hK.out _ _ ?_ (fun hHeld => ?_)
        · exact ⟨(hbr.cell (p := ⟨b, off + k * 4, none⟩) lb).trans c0, (hbr.cell (p := ⟨b, off + k * 4 + 1, none⟩) lb).trans c1, (hbr.cell (p := ⟨b, off + k * 4 + 2, none⟩) lb).trans c2, (hbr.cell (p := ⟨b, off + k * 4 + 3, none⟩) lb).trans c3, (hbr.cell (p := ⟨b, off + k1 * 4, none⟩) lb).trans e0, (hbr.cell (p := ⟨b, off + k1 * 4 + 1, none⟩) lb).trans e1, (hbr.cell (p := ⟨b, off + k1 * 4 + 2, none⟩) lb).trans e2, (hbr.cell (p := ⟨b, off + k1 * 4 + 3, none⟩) lb).trans e3⟩
        clear hK K
        (try simp only [Act.put, List.setIfInBounds_toArray, List.set_cons_zero, List.set_cons_succ])
        refine wpAnyH_take (i := 11) (oi := ⟨some 24, _, _, _, _, _⟩) (v := ?_) rfl (by kernel_rfl) (by kernel_rfl) (by kernel_rfl) (fun _ _ _ h => h) (Or.inl ⟨by kernel_rfl, ?_⟩) (by assumption) ?_
        rotate_left
        · (intro w hSw; (try dsimp only at hSw); go_simp; try with_reducible rfl)
        (try simp only [Act.put, List.setIfInBounds_toArray, List.set_cons_zero, List.set_cons_succ])
        refine wpAnyH_done (by kernel_rfl) ?_ _
        have HB2 := Lib.hid (HB.out.drew.trans (hbr.mono HB.out.size))
        clear hbr
        go_wp2_with fail
        go_roundg (k1 + 1)
        case measure => have := HG.out; have := HKL.out; omega
        case rel => exact ⟨(k1 : Int), by omega, by omega, by omega, by go_num, HNX2, HB2.out⟩
    · have hpos' : decide (0 < i) = false := decide_eq_false hpos
      have HYE := Lib.hid (show Rises l from fun j x y hx hy => HR j x y (by omega) hx hy)
      go_wp2
      go_ret
      exact RetIff.yes HYE.out HB.out

theorem ints_wants {l : List Pl} (h : ∀ x ∈ l, PlOk x ∧ x.ps.length ≤ 1000) : IntsS (wantsT l) := by
  intro s hs
  obtain ⟨x, hx, rfl⟩ := List.mem_map.1 hs
  obtain ⟨h1, h2, _⟩ := (h x hx).1
  exact ⟨h1, h2⟩

set_option maxRecDepth 100000 in
set_option maxHeartbeats 4000000 in
theorem rightUnits_any (f : Int) (m : Nat) (v : Value) (l : List Pl) (w : World) (h : PlsAt w v l) (hL : WideL l) :
    Calls Tryz.prog 97 #[planA f m v] w (RetIff (UnitsOk f l) w) := by
  have hl : l.length ≤ 1200000 := hL.len
  have HWT := Lib.hid (fun W h => wants_any f m v l W h hl)
  have HCK := Lib.hid (fun v W h => check_any f v (wantsT l) W h (ints_wants hL.ok))
  have HIS := Lib.hid (fun (hl : l.length ≤ 1000) W h => calls_iff (isSorted_any v l W h hl))
  have HH := Lib.hid h
  unfold planA at HWT
  obtain ⟨w1, P, hw1, hP, hPl, hb1, hbox⟩ := box_any w #[.int .i64 f, .int .u32 m, v] 26
  have HB1 := Lib.hid hb1
  have HPB := Lib.hid hbox
  obtain ⟨r0, r1, r2⟩ := three_heads hbox
  have lP := heap_lt hbox
  have mixed : Tryz.prog.follows .mixedOrders = true := by kernel_rfl
  obtain ⟨E, hE⟩ : ∃ E, chkT f (wantsT l) = E := ⟨_, rfl⟩
  rw [hE] at HCK
  have HEQ := Lib.hid (show UnitsOk f l ↔ E = 0 ∧ Rises l from ⟨fun h => ⟨by rw [← hE]; exact h.chk, h.rises⟩, fun h => ⟨by rw [hE]; exact h.1, h.2⟩⟩)
  have HSM := Lib.hid (show E = 0 → l.length ≤ 1000 from fun h => by have := (hL.light (by rw [hE]; exact h)).len; omega)
  clear h hL hb1 hbox hE
  unfold planA
  by_cases hE0 : E = 0
  · have he : (E == 0) = true := by simpa using hE0
    by_cases hri : Rises l
    · have HIC := Lib.hid (fun W h => (HIS.out (HSM.out hE0) W h).1 hri)
      have HYE := Lib.hid (HEQ.out.2 ⟨hE0, hri⟩)
      clear hri hE0
      go_enter Tryz.func97, Tryz.ntmps97
      go_wp2_with fail
      refine wp_region_held_drew (S := fun w' => w'.cell? ⟨P, 0, none⟩ = some (.int .i64 f) ∧ w'.cell? ⟨P, 1, none⟩ = some (.int .u32 m) ∧ w'.cell? ⟨P, 2, none⟩ = some (v)) (by kernel_rfl) ?_ (fun hHeld => ?_)
      · exact ⟨r0, r1, r2⟩
      refine wpAnyH_take (i := 0) (oi := ⟨some 3, _, _, _, _, _⟩) (v := ?_) rfl (by kernel_rfl) (by kernel_rfl) (by kernel_rfl) (fun _ _ _ h => h) (Or.inl ⟨by kernel_rfl, ?_⟩) (by assumption) ?_
      rotate_left
      · (intro w hSw; (try dsimp only at hSw); go_simp; try with_reducible rfl)
      (try simp only [Act.put, List.setIfInBounds_toArray, List.set_cons_zero, List.set_cons_succ])
      refine wpAnyH_take (i := 1) (oi := ⟨some 4, _, _, _, _, _⟩) (v := ?_) rfl (by kernel_rfl) (by kernel_rfl) (by kernel_rfl) (fun _ _ _ h => h) (Or.inl ⟨by kernel_rfl, ?_⟩) (by assumption) ?_
      rotate_left
      · (intro w hSw; (try dsimp only at hSw); go_simp; try with_reducible rfl)
      (try simp only [Act.put, List.setIfInBounds_toArray, List.set_cons_zero, List.set_cons_succ])
      refine wpAnyH_take (i := 2) (oi := ⟨some 5, _, _, _, _, _⟩) (v := ?_) rfl (by kernel_rfl) (by kernel_rfl) (by kernel_rfl) (fun _ _ _ h => h) (Or.inl ⟨by kernel_rfl, ?_⟩) (by assumption) ?_
      rotate_left
      · (intro w hSw; (try dsimp only at hSw); go_simp; try with_reducible rfl)
      (try simp only [Act.put, List.setIfInBounds_toArray, List.set_cons_zero, List.set_cons_succ])
      refine wpAnyH_ready (rs := [3]) (by kernel_rfl) (by simp) ?_
      refine AllReadyH.cons (o := ⟨some 6, _, _, _, _, _⟩) rfl (fun K hK => ?_) AllReadyH.nil
      rw [if_pos (by kernel_rfl)]
      go_simp
      go_at_call 53; refine (HWT.out _ (HH.out.keep HB1.out.drew)).mono ?_; rintro e wq ⟨vw, rfl, hsw, hb3⟩
      refine hK.out _ _ ?_ (fun hHeld => ?_)
      · exact ⟨(hb3.cell (p := ⟨P, 0, none⟩) lP).trans r0, (hb3.cell (p := ⟨P, 1, none⟩) lP).trans r1, (hb3.cell (p := ⟨P, 2, none⟩) lP).trans r2⟩
      clear hK K
      (try simp only [Act.put, List.setIfInBounds_toArray, List.set_cons_zero, List.set_cons_succ])
      refine wpAnyH_ready (rs := [4]) (by kernel_rfl) (by simp) ?_
      refine AllReadyH.cons (o := ⟨some 7, _, _, _, _, _⟩) rfl (fun K hK => ?_) AllReadyH.nil
      rw [if_pos (by kernel_rfl)]
      go_simp
      go_at_call 41; refine (HCK.out _ _ hsw).mono ?_; rintro e wq2 ⟨rfl, hb4⟩
      have hb5 := hb3.trans (hb4.mono hb3.size)
      refine hK.out _ _ ?_ (fun hHeld => ?_)
      · exact ⟨(hb5.cell (p := ⟨P, 0, none⟩) lP).trans r0, (hb5.cell (p := ⟨P, 1, none⟩) lP).trans r1, (hb5.cell (p := ⟨P, 2, none⟩) lP).trans r2⟩
      clear hK K
      (try simp only [Act.put, List.setIfInBounds_toArray, List.set_cons_zero, List.set_cons_succ])
      refine wpAnyH_take (i := 5) (oi := ⟨some 8, _, _, _, _, _⟩) (v := ?_) rfl (by kernel_rfl) (by kernel_rfl) (by kernel_rfl) (fun _ _ _ h => h) (Or.inl ⟨by kernel_rfl, ?_⟩) (by assumption) ?_
      rotate_left
      · (intro w hSw; (try dsimp only at hSw); go_simp; try with_reducible rfl)
      (try simp only [Act.put, List.setIfInBounds_toArray, List.set_cons_zero, List.set_cons_succ])
      refine wpAnyH_take (i := 6) (oi := ⟨some 9, _, _, _, _, _⟩) (v := ?_) rfl (by kernel_rfl) (by kernel_rfl) (by kernel_rfl) (fun _ _ _ h => h) (Or.inl ⟨by kernel_rfl, ?_⟩) (by assumption) ?_
      rotate_left
      · (intro w hSw; (try dsimp only at hSw); go_simp; try with_reducible rfl)
      (try simp only [Act.put, List.setIfInBounds_toArray, List.set_cons_zero, List.set_cons_succ])
      refine wpAnyH_take (i := 7) (oi := ⟨some 10, _, _, _, _, _⟩) (v := ?_) rfl (by kernel_rfl) (by kernel_rfl) (by kernel_rfl) (fun _ _ _ h => h) (Or.inl ⟨by kernel_rfl, ?_⟩) (by assumption) ?_
      rotate_left
      · (intro w hSw; (try dsimp only at hSw); go_simp; try with_reducible rfl)
      (try simp only [Act.put, List.setIfInBounds_toArray, List.set_cons_zero, List.set_cons_succ])
      refine wpAnyH_take (i := 8) (oi := ⟨some 11, _, _, _, _, _⟩) (v := ?_) rfl (by kernel_rfl) (by kernel_rfl) (by kernel_rfl) (fun _ _ _ h => h) (Or.inl ⟨by kernel_rfl, ?_⟩) (by assumption) ?_
      rotate_left
      · (intro w hSw; (try dsimp only at hSw); go_simp; try with_reducible rfl)
      (try simp only [Act.put, List.setIfInBounds_toArray, List.set_cons_zero, List.set_cons_succ])
      refine wpAnyH_ready (rs := [9]) (by kernel_rfl) (by simp) ?_
      refine AllReadyH.cons (o := ⟨some 12, _, _, _, _, _⟩) rfl (fun K hK => ?_) AllReadyH.nil
      rw [if_pos (by kernel_rfl)]
      go_simp
      go_at_call 143; refine (HIC.out _ (HH.out.keep (HB1.out.drew.trans (hb5.mono HB1.out.size)))).mono ?_; rintro e wq3 ⟨rfl, hb6⟩
      have hb7 := hb5.trans (hb6.mono hb5.size)
      refine hK.out _ _ ?_ (fun hHeld => ?_)
      · exact ⟨(hb7.cell (p := ⟨P, 0, none⟩) lP).trans r0, (hb7.cell (p := ⟨P, 1, none⟩) lP).trans r1, (hb7.cell (p := ⟨P, 2, none⟩) lP).trans r2⟩
      clear hK K
      (try simp only [Act.put, List.setIfInBounds_toArray, List.set_cons_zero, List.set_cons_succ])
      refine wpAnyH_take (i := 10) (oi := ⟨some 13, _, _, _, _, _⟩) (v := ?_) rfl (by kernel_rfl) (by kernel_rfl) (by kernel_rfl) (fun _ _ _ h => h) (Or.inl ⟨by kernel_rfl, ?_⟩) (by assumption) ?_
      rotate_left
      · (intro w hSw; (try dsimp only at hSw); go_simp; try with_reducible rfl)
      (try simp only [Act.put, List.setIfInBounds_toArray, List.set_cons_zero, List.set_cons_succ])
      refine wpAnyH_take (i := 11) (oi := ⟨some 2, _, _, _, _, _⟩) (v := ?_) rfl (by kernel_rfl) (by kernel_rfl) (by kernel_rfl) (fun _ _ _ h => h) (Or.inl ⟨by kernel_rfl, ?_⟩) (by assumption) ?_
      rotate_left
      · (intro w hSw; (try dsimp only at hSw); go_simp; try with_reducible rfl)
      (try simp only [Act.put, List.setIfInBounds_toArray, List.set_cons_zero, List.set_cons_succ])
      refine wpAnyH_done (by kernel_rfl) ?_ _
      have HB9 := Lib.hid (HB1.out.drew.trans (hb7.mono HB1.out.size))
      go_wp2_with fail
      go_ret
      exact RetIff.yes HYE.out HB9.out
    · have HIC := Lib.hid (fun W h => (HIS.out (HSM.out hE0) W h).2 hri)
      have HNO := Lib.hid (show ¬ UnitsOk f l from fun h => hri h.rises)
      clear hri hE0
      go_enter Tryz.func97, Tryz.ntmps97
      go_wp2_with fail
      refine wp_region_held_drew (S := fun w' => w'.cell? ⟨P, 0, none⟩ = some (.int .i64 f) ∧ w'.cell? ⟨P, 1, none⟩ = some (.int .u32 m) ∧ w'.cell? ⟨P, 2, none⟩ = some (v)) (by kernel_rfl) ?_ (fun hHeld => ?_)
      · exact ⟨r0, r1, r2⟩
      refine wpAnyH_take (i := 0) (oi := ⟨some 3, _, _, _, _, _⟩) (v := ?_) rfl (by kernel_rfl) (by kernel_rfl) (by kernel_rfl) (fun _ _ _ h => h) (Or.inl ⟨by kernel_rfl, ?_⟩) (by assumption) ?_
      rotate_left
      · (intro w hSw; (try dsimp only at hSw); go_simp; try with_reducible rfl)
      (try simp only [Act.put, List.setIfInBounds_toArray, List.set_cons_zero, List.set_cons_succ])
      refine wpAnyH_take (i := 1) (oi := ⟨some 4, _, _, _, _, _⟩) (v := ?_) rfl (by kernel_rfl) (by kernel_rfl) (by kernel_rfl) (fun _ _ _ h => h) (Or.inl ⟨by kernel_rfl, ?_⟩) (by assumption) ?_
      rotate_left
      · (intro w hSw; (try dsimp only at hSw); go_simp; try with_reducible rfl)
      (try simp only [Act.put, List.setIfInBounds_toArray, List.set_cons_zero, List.set_cons_succ])
      refine wpAnyH_take (i := 2) (oi := ⟨some 5, _, _, _, _, _⟩) (v := ?_) rfl (by kernel_rfl) (by kernel_rfl) (by kernel_rfl) (fun _ _ _ h => h) (Or.inl ⟨by kernel_rfl, ?_⟩) (by assumption) ?_
      rotate_left
      · (intro w hSw; (try dsimp only at hSw); go_simp; try with_reducible rfl)
      (try simp only [Act.put, List.setIfInBounds_toArray, List.set_cons_zero, List.set_cons_succ])
      refine wpAnyH_ready (rs := [3]) (by kernel_rfl) (by simp) ?_
      refine AllReadyH.cons (o := ⟨some 6, _, _, _, _, _⟩) rfl (fun K hK => ?_) AllReadyH.nil
      rw [if_pos (by kernel_rfl)]
      go_simp
      go_at_call 53; refine (HWT.out _ (HH.out.keep HB1.out.drew)).mono ?_; rintro e wq ⟨vw, rfl, hsw, hb3⟩
      refine hK.out _ _ ?_ (fun hHeld => ?_)
      · exact ⟨(hb3.cell (p := ⟨P, 0, none⟩) lP).trans r0, (hb3.cell (p := ⟨P, 1, none⟩) lP).trans r1, (hb3.cell (p := ⟨P, 2, none⟩) lP).trans r2⟩
      clear hK K
      (try simp only [Act.put, List.setIfInBounds_toArray, List.set_cons_zero, List.set_cons_succ])
      refine wpAnyH_ready (rs := [4]) (by kernel_rfl) (by simp) ?_
      refine AllReadyH.cons (o := ⟨some 7, _, _, _, _, _⟩) rfl (fun K hK => ?_) AllReadyH.nil
      rw [if_pos (by kernel_rfl)]
      go_simp
      go_at_call 41; refine (HCK.out _ _ hsw).mono ?_; rintro e wq2 ⟨rfl, hb4⟩
      have hb5 := hb3.trans (hb4.mono hb3.size)
      refine hK.out _ _ ?_ (fun hHeld => ?_)
      · exact ⟨(hb5.cell (p := ⟨P, 0, none⟩) lP).trans r0, (hb5.cell (p := ⟨P, 1, none⟩) lP).trans r1, (hb5.cell (p := ⟨P, 2, none⟩) lP).trans r2⟩
      clear hK K
      (try simp only [Act.put, List.setIfInBounds_toArray, List.set_cons_zero, List.set_cons_succ])
      refine wpAnyH_take (i := 5) (oi := ⟨some 8, _, _, _, _, _⟩) (v := ?_) rfl (by kernel_rfl) (by kernel_rfl) (by kernel_rfl) (fun _ _ _ h => h) (Or.inl ⟨by kernel_rfl, ?_⟩) (by assumption) ?_
      rotate_left
      · (intro w hSw; (try dsimp only at hSw); go_simp; try with_reducible rfl)
      (try simp only [Act.put, List.setIfInBounds_toArray, List.set_cons_zero, List.set_cons_succ])
      refine wpAnyH_take (i := 6) (oi := ⟨some 9, _, _, _, _, _⟩) (v := ?_) rfl (by kernel_rfl) (by kernel_rfl) (by kernel_rfl) (fun _ _ _ h => h) (Or.inl ⟨by kernel_rfl, ?_⟩) (by assumption) ?_
      rotate_left
      · (intro w hSw; (try dsimp only at hSw); go_simp; try with_reducible rfl)
      (try simp only [Act.put, List.setIfInBounds_toArray, List.set_cons_zero, List.set_cons_succ])
      refine wpAnyH_take (i := 7) (oi := ⟨some 10, _, _, _, _, _⟩) (v := ?_) rfl (by kernel_rfl) (by kernel_rfl) (by kernel_rfl) (fun _ _ _ h => h) (Or.inl ⟨by kernel_rfl, ?_⟩) (by assumption) ?_
      rotate_left
      · (intro w hSw; (try dsimp only at hSw); go_simp; try with_reducible rfl)
      (try simp only [Act.put, List.setIfInBounds_toArray, List.set_cons_zero, List.set_cons_succ])
      refine wpAnyH_take (i := 8) (oi := ⟨some 11, _, _, _, _, _⟩) (v := ?_) rfl (by kernel_rfl) (by kernel_rfl) (by kernel_rfl) (fun _ _ _ h => h) (Or.inl ⟨by kernel_rfl, ?_⟩) (by assumption) ?_
      rotate_left
      · (intro w hSw; (try dsimp only at hSw); go_simp; try with_reducible rfl)
      (try simp only [Act.put, List.setIfInBounds_toArray, List.set_cons_zero, List.set_cons_succ])
      refine wpAnyH_ready (rs := [9]) (by kernel_rfl) (by simp) ?_
      refine AllReadyH.cons (o := ⟨some 12, _, _, _, _, _⟩) rfl (fun K hK => ?_) AllReadyH.nil
      rw [if_pos (by kernel_rfl)]
      go_simp
      go_at_call 143; refine (HIC.out _ (HH.out.keep (HB1.out.drew.trans (hb5.mono HB1.out.size)))).mono ?_; rintro e wq3 ⟨rfl, hb6⟩
      have hb7 := hb5.trans (hb6.mono hb5.size)
      refine hK.out _ _ ?_ (fun hHeld => ?_)
      · exact ⟨(hb7.cell (p := ⟨P, 0, none⟩) lP).trans r0, (hb7.cell (p := ⟨P, 1, none⟩) lP).trans r1, (hb7.cell (p := ⟨P, 2, none⟩) lP).trans r2⟩
      clear hK K
      (try simp only [Act.put, List.setIfInBounds_toArray, List.set_cons_zero, List.set_cons_succ])
      refine wpAnyH_take (i := 10) (oi := ⟨some 13, _, _, _, _, _⟩) (v := ?_) rfl (by kernel_rfl) (by kernel_rfl) (by kernel_rfl) (fun _ _ _ h => h) (Or.inl ⟨by kernel_rfl, ?_⟩) (by assumption) ?_
      rotate_left
      · (intro w hSw; (try dsimp only at hSw); go_simp; try with_reducible rfl)
      (try simp only [Act.put, List.setIfInBounds_toArray, List.set_cons_zero, List.set_cons_succ])
      refine wpAnyH_take (i := 11) (oi := ⟨some 2, _, _, _, _, _⟩) (v := ?_) rfl (by kernel_rfl) (by kernel_rfl) (by kernel_rfl) (fun _ _ _ h => h) (Or.inl ⟨by kernel_rfl, ?_⟩) (by assumption) ?_
      rotate_left
      · (intro w hSw; (try dsimp only at hSw); go_simp; try with_reducible rfl)
      (try simp only [Act.put, List.setIfInBounds_toArray, List.set_cons_zero, List.set_cons_succ])
      refine wpAnyH_done (by kernel_rfl) ?_ _
      have HB9 := Lib.hid (HB1.out.drew.trans (hb7.mono HB1.out.size))
      go_wp2_with fail
      go_ret
      exact RetIff.no HNO.out HB9.out
  · have he : (E == 0) = false := by simpa using hE0
    have HNO := Lib.hid (show ¬ UnitsOk f l from fun h => hE0 (HEQ.out.1 h).1)
    clear hE0
    go_enter Tryz.func97, Tryz.ntmps97
    go_wp2_with fail
    refine wp_region_held_drew (S := fun w' => w'.cell? ⟨P, 0, none⟩ = some (.int .i64 f) ∧ w'.cell? ⟨P, 1, none⟩ = some (.int .u32 m) ∧ w'.cell? ⟨P, 2, none⟩ = some (v)) (by kernel_rfl) ?_ (fun hHeld => ?_)
    · exact ⟨r0, r1, r2⟩
    refine wpAnyH_take (i := 0) (oi := ⟨some 3, _, _, _, _, _⟩) (v := ?_) rfl (by kernel_rfl) (by kernel_rfl) (by kernel_rfl) (fun _ _ _ h => h) (Or.inl ⟨by kernel_rfl, ?_⟩) (by assumption) ?_
    rotate_left
    · (intro w hSw; (try dsimp only at hSw); go_simp; try with_reducible rfl)
    (try simp only [Act.put, List.setIfInBounds_toArray, List.set_cons_zero, List.set_cons_succ])
    refine wpAnyH_take (i := 1) (oi := ⟨some 4, _, _, _, _, _⟩) (v := ?_) rfl (by kernel_rfl) (by kernel_rfl) (by kernel_rfl) (fun _ _ _ h => h) (Or.inl ⟨by kernel_rfl, ?_⟩) (by assumption) ?_
    rotate_left
    · (intro w hSw; (try dsimp only at hSw); go_simp; try with_reducible rfl)
    (try simp only [Act.put, List.setIfInBounds_toArray, List.set_cons_zero, List.set_cons_succ])
    refine wpAnyH_take (i := 2) (oi := ⟨some 5, _, _, _, _, _⟩) (v := ?_) rfl (by kernel_rfl) (by kernel_rfl) (by kernel_rfl) (fun _ _ _ h => h) (Or.inl ⟨by kernel_rfl, ?_⟩) (by assumption) ?_
    rotate_left
    · (intro w hSw; (try dsimp only at hSw); go_simp; try with_reducible rfl)
    (try simp only [Act.put, List.setIfInBounds_toArray, List.set_cons_zero, List.set_cons_succ])
    refine wpAnyH_ready (rs := [3]) (by kernel_rfl) (by simp) ?_
    refine AllReadyH.cons (o := ⟨some 6, _, _, _, _, _⟩) rfl (fun K hK => ?_) AllReadyH.nil
    rw [if_pos (by kernel_rfl)]
    go_simp
    go_at_call 53; refine (HWT.out _ (HH.out.keep HB1.out.drew)).mono ?_; rintro e wq ⟨vw, rfl, hsw, hb3⟩
    refine hK.out _ _ ?_ (fun hHeld => ?_)
    · exact ⟨(hb3.cell (p := ⟨P, 0, none⟩) lP).trans r0, (hb3.cell (p := ⟨P, 1, none⟩) lP).trans r1, (hb3.cell (p := ⟨P, 2, none⟩) lP).trans r2⟩
    clear hK K
    (try simp only [Act.put, List.setIfInBounds_toArray, List.set_cons_zero, List.set_cons_succ])
    refine wpAnyH_ready (rs := [4]) (by kernel_rfl) (by simp) ?_
    refine AllReadyH.cons (o := ⟨some 7, _, _, _, _, _⟩) rfl (fun K hK => ?_) AllReadyH.nil
    rw [if_pos (by kernel_rfl)]
    go_simp
    go_at_call 41; refine (HCK.out _ _ hsw).mono ?_; rintro e wq2 ⟨rfl, hb4⟩
    have hb5 := hb3.trans (hb4.mono hb3.size)
    refine hK.out _ _ ?_ (fun hHeld => ?_)
    · exact ⟨(hb5.cell (p := ⟨P, 0, none⟩) lP).trans r0, (hb5.cell (p := ⟨P, 1, none⟩) lP).trans r1, (hb5.cell (p := ⟨P, 2, none⟩) lP).trans r2⟩
    clear hK K
    (try simp only [Act.put, List.setIfInBounds_toArray, List.set_cons_zero, List.set_cons_succ])
    refine wpAnyH_take (i := 5) (oi := ⟨some 8, _, _, _, _, _⟩) (v := ?_) rfl (by kernel_rfl) (by kernel_rfl) (by kernel_rfl) (fun _ _ _ h => h) (Or.inl ⟨by kernel_rfl, ?_⟩) (by assumption) ?_
    rotate_left
    · (intro w hSw; (try dsimp only at hSw); go_simp; try with_reducible rfl)
    (try simp only [Act.put, List.setIfInBounds_toArray, List.set_cons_zero, List.set_cons_succ])
    refine wpAnyH_take (i := 6) (oi := ⟨some 9, _, _, _, _, _⟩) (v := ?_) rfl (by kernel_rfl) (by kernel_rfl) (by kernel_rfl) (fun _ _ _ h => h) (Or.inl ⟨by kernel_rfl, ?_⟩) (by assumption) ?_
    rotate_left
    · (intro w hSw; (try dsimp only at hSw); go_simp; try with_reducible rfl)
    (try simp only [Act.put, List.setIfInBounds_toArray, List.set_cons_zero, List.set_cons_succ])
    refine wpAnyH_take (i := 7) (oi := ⟨some 10, _, _, _, _, _⟩) (v := undef) rfl (by kernel_rfl) (by kernel_rfl) (by kernel_rfl) (fun _ _ _ h => h) (Or.inr ⟨by kernel_rfl, rfl⟩) (by assumption) ?_
    (try simp only [Act.put, List.setIfInBounds_toArray, List.set_cons_zero, List.set_cons_succ])
    refine wpAnyH_take (i := 8) (oi := ⟨some 11, _, _, _, _, _⟩) (v := undef) rfl (by kernel_rfl) (by kernel_rfl) (by kernel_rfl) (fun _ _ _ h => h) (Or.inr ⟨by kernel_rfl, rfl⟩) (by assumption) ?_
    (try simp only [Act.put, List.setIfInBounds_toArray, List.set_cons_zero, List.set_cons_succ])
    refine wpAnyH_take (i := 9) (oi := ⟨some 12, _, _, _, _, _⟩) (v := undef) rfl (by kernel_rfl) (by kernel_rfl) (by kernel_rfl) (fun _ _ _ h => h) (Or.inr ⟨by kernel_rfl, rfl⟩) (by assumption) ?_
    (try simp only [Act.put, List.setIfInBounds_toArray, List.set_cons_zero, List.set_cons_succ])
    refine wpAnyH_take (i := 10) (oi := ⟨some 13, _, _, _, _, _⟩) (v := ?_) rfl (by kernel_rfl) (by kernel_rfl) (by kernel_rfl) (fun _ _ _ h => h) (Or.inl ⟨by kernel_rfl, ?_⟩) (by assumption) ?_
    rotate_left
    · (intro w hSw; (try dsimp only at hSw); go_simp; try with_reducible rfl)
    (try simp only [Act.put, List.setIfInBounds_toArray, List.set_cons_zero, List.set_cons_succ])
    refine wpAnyH_take (i := 11) (oi := ⟨some 2, _, _, _, _, _⟩) (v := ?_) rfl (by kernel_rfl) (by kernel_rfl) (by kernel_rfl) (fun _ _ _ h => h) (Or.inl ⟨by kernel_rfl, ?_⟩) (by assumption) ?_
    rotate_left
    · (intro w hSw; (try dsimp only at hSw); go_simp; try with_reducible rfl)
    (try simp only [Act.put, List.setIfInBounds_toArray, List.set_cons_zero, List.set_cons_succ])
    refine wpAnyH_done (by kernel_rfl) ?_ _
    have HB9 := Lib.hid (HB1.out.drew.trans (hb5.mono HB1.out.size))
    go_wp2_with fail
    go_ret
    exact RetIff.no HNO.out HB9.out
end Go.Proofs.YtpfpojehcjmfnaaGreat
