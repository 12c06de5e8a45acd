/-
  Put of the program.
  Conditions: the slices read as places, as pieces; where the place belongs is told.
-/
import Derived.Test.YtajgebcaobknoaaM07
import Derived.Test.YtajgebcaobknoaaM15

/-
  slices.BinarySearchFunc over places, by their units.
  Conditions: the slice reads as places; where the place belongs is told.
-/
set_option linter.unusedVariables false
namespace Go.Proofs.Ytajgebcaobknoaa
open Go.RowKit Go.Sort

set_option maxRecDepth 100000 in
set_option maxHeartbeats 8000000 in
theorem binary_any (v vx : Value) (l : List Pl) (tu ts tc : Int) (kk : Nat) (w : World) (h : PlsAt w v l) (hl : l.length ≤ 1000) (hk : PutAt l tu kk) :
    Calls Try.prog 54 #[v, .agg #[.int .i64 tu, .int .i64 ts, .int .i64 tc, vx], .func (.func 55) #[] #[]] w (fun e w' => ∃ q : Bool, e = .returned (.tuple #[.int .i64 kk, .bool q]) ∧ Below w.heap.size w w') := by
  have eg : ∀ args w, (callFunc 55 args).run Try.prog w = .ok (.enter 55 args) w := enters_of Try.func55 (by kernel_rfl) rfl
  have mixed : Try.prog.follows .mixedOrders = true := by kernel_rfl
  have HCU := Lib.hid (fun v' y W => compareUnits_any v' vx y ⟨tu, ts, tc, []⟩ W)
  unfold plA at HCU
  simp only at HCU
  obtain ⟨A, cA, rfl, hlc, hcm⟩ := h.form
  have HL := Lib.hid h
  have HK := Lib.hid hk
  obtain ⟨n, hn⟩ : ∃ n, l.length = n := ⟨_, rfl⟩
  rw [hn] at HL hlc hl ⊢
  have HN := Lib.hid hn
  have hkn : kk ≤ n := by have := hk.le; omega
  obtain ⟨w1, T, hw1, hT, hTl, hb1, hbox⟩ := box_any w #[.int .i64 tu, .int .i64 ts, .int .i64 tc, vx] 41
  have HB1 := Lib.hid hb1
  have HBOX := Lib.hid hbox
  clear h hn hk hb1 hbox
  go_enter Try.func54, Try.ntmps54
  go_wp2_with fail
  clear hw1 hT
  go_loopg [9, 10, 11] n (fun gg s9 s10 _ wr => ∃ i j : Nat, i ≤ kk ∧ kk ≤ j ∧ j ≤ n ∧ gg = j - i ∧ s9 = .int .i64 i ∧ s10 = .int .i64 j ∧ Below w1.heap.size w1 wr)
  case atStart => exact ⟨0, n, Nat.zero_le _, hkn, Nat.le_refl _, by omega, rfl, rfl, Below.refl _ _⟩
  case round =>
    obtain ⟨i, j, hi, hj, hjn, hg, rfl, rfl, hbw⟩ := hrel
    have HG := Lib.hid hg
    have HBW := Lib.hid hbw
    have HB := Lib.hid (HB1.out.trans (hbw.mono HB1.out.size))
    have HLR := Lib.hid (HL.out.keep HB.out)
    obtain ⟨t0, t1, t2, t3⟩ := four_heads (keep_block HBOX.out hbw)
    have lT : T < wr.heap.size := Nat.lt_of_lt_of_le hTl hbw.size
    clear hg hbw
    by_cases hij : i < j
    · have hijz : (i : Int) < (j : Int) := by omega
      obtain ⟨H, hH⟩ : ∃ H, (i + j) / 2 = H := ⟨_, rfl⟩
      have hH1 : i ≤ H := by omega
      have hH2 : H < j := by omega
      have hHn : (H : Int) < (n : Int) := by omega
      have hH0 : (0 : Int) ≤ (H : Int) := by omega
      obtain ⟨M, hM⟩ : ∃ M, i + j = M := ⟨_, rfl⟩
      have hsum : (i : Int) + (j : Int) = (M : Int) := by omega
      have hw1 : IntKind.i64.wrap (M : Int) = (M : Int) := IntWalk.i64_in _ (by omega)
      have hw2 : IntKind.u64.wrap (M : Int) = (M : Int) := by rw [IntKind.wrap_u64]; omega
      have hsh : (M : Int) >>> 1 = (H : Int) := by rw [Int.shiftRight_eq_div_pow]; omega
      have hsh2 : (M : Int) / 2 = (H : Int) := by omega
      rw [hM] at hH
      clear hM
      have hw3 : IntKind.i64.wrap (H : Int) = (H : Int) := IntWalk.i64_in _ (by omega)
      have hw4 : IntKind.u64.wrap (H : Int) = (H : Int) := by rw [IntKind.wrap_u64]; omega
      obtain ⟨y, hy⟩ := exP_at (xs := l) (k := H) (by rw [HN.out]; omega)
      obtain ⟨b, off, B, d, hA, hbl, _, ⟨c0, c1, c2, c3⟩, _⟩ := HLR.out.at_ hy
      subst hA
      simp only at c0 c1 c2 c3
      have HLS := Lib.hid (HK.out.less H y hy)
      obtain ⟨yu, ys, yc, yp⟩ := y
      simp only at c0 c1 c2 c3 HLS
      have HC := Lib.hid (fun W => HCU.out (.slice B yp.length d) ⟨yu, ys, yc, yp⟩ W)
      simp only at HC
      obtain ⟨np, hnp⟩ : ∃ np, yp.length = np := ⟨_, rfl⟩
      rw [hnp] at c3 HC
      have lb : b < wr.heap.size := hbl
      clear hnp hy hbl
      by_cases hlu : yu < tu
      · have hc : cmpI yu tu = -1 := cmp_neg hlu
        rw [hc] at HC
        have hHk := HLS.out.1 hlu
        clear hlu hc
        go_wp2_with fail
        refine wp_region_held_drew (S := fun w' => w'.cell? ⟨T, 0, none⟩ = some (.int .i64 tu) ∧ w'.cell? ⟨T, 1, none⟩ = some (.int .i64 ts) ∧ w'.cell? ⟨T, 2, none⟩ = some (.int .i64 tc) ∧ w'.cell? ⟨T, 3, none⟩ = some (vx) ∧ w'.cell? ⟨b, off + H * 4, none⟩ = some (.int .i64 yu) ∧ w'.cell? ⟨b, off + H * 4 + 1, none⟩ = some (.int .i64 ys) ∧ w'.cell? ⟨b, off + H * 4 + 2, none⟩ = some (.int .i64 yc) ∧ w'.cell? ⟨b, off + H * 4 + 3, none⟩ = some (.slice B np d)) (by kernel_rfl) ?_ (fun hHeld => ?_)
        · exact ⟨t0, t1, t2, t3, c0, c1, c2, c3⟩
        refine wpAnyH_take (i := 0) (oi := ⟨some 24, _, _, _, _, _⟩) (v := ?_) rfl (by kernel_rfl) (by kernel_rfl) (by kernel_rfl) (fun _ _ _ h => h) (Or.inl ⟨by kernel_rfl, ?_⟩) (by assumption) ?_
        rotate_left
        · (intro w hSw; (try dsimp only at hSw); go_simp; try with_reducible rfl)
        (try simp only [Act.put, List.setIfInBounds_toArray, List.set_cons_zero, List.set_cons_succ])
        refine wpAnyH_take (i := 1) (oi := ⟨some 25, _, _, _, _, _⟩) (v := ?_) rfl (by kernel_rfl) (by kernel_rfl) (by kernel_rfl) (fun _ _ _ h => h) (Or.inl ⟨by kernel_rfl, ?_⟩) (by assumption) ?_
        rotate_left
        · (intro w hSw; (try dsimp only at hSw); go_simp; try with_reducible rfl)
        (try simp only [Act.put, List.setIfInBounds_toArray, List.set_cons_zero, List.set_cons_succ])
        refine wpAnyH_take (i := 2) (oi := ⟨some 26, _, _, _, _, _⟩) (v := ?_) rfl (by kernel_rfl) (by kernel_rfl) (by kernel_rfl) (fun _ _ _ h => h) (Or.inl ⟨by kernel_rfl, ?_⟩) (by assumption) ?_
        rotate_left
        · (intro w hSw; (try dsimp only at hSw); go_simp; try with_reducible rfl)
        (try simp only [Act.put, List.setIfInBounds_toArray, List.set_cons_zero, List.set_cons_succ])
        refine wpAnyH_take (i := 3) (oi := ⟨some 27, _, _, _, _, _⟩) (v := ?_) rfl (by kernel_rfl) (by kernel_rfl) (by kernel_rfl) (fun _ _ _ h => h) (Or.inl ⟨by kernel_rfl, ?_⟩) (by assumption) ?_
        rotate_left
        · (intro w hSw; (try dsimp only at hSw); go_simp; try with_reducible rfl)
        (try simp only [Act.put, List.setIfInBounds_toArray, List.set_cons_zero, List.set_cons_succ])
        refine wpAnyH_take (i := 4) (oi := ⟨some 28, _, _, _, _, _⟩) (v := ?_) rfl (by kernel_rfl) (by kernel_rfl) (by kernel_rfl) (fun _ _ _ h => h) (Or.inl ⟨by kernel_rfl, ?_⟩) (by assumption) ?_
        rotate_left
        · (intro w hSw; (try dsimp only at hSw); go_simp; try with_reducible rfl)
        (try simp only [Act.put, List.setIfInBounds_toArray, List.set_cons_zero, List.set_cons_succ])
        refine wpAnyH_take (i := 5) (oi := ⟨some 29, _, _, _, _, _⟩) (v := ?_) rfl (by kernel_rfl) (by kernel_rfl) (by kernel_rfl) (fun _ _ _ h => h) (Or.inl ⟨by kernel_rfl, ?_⟩) (by assumption) ?_
        rotate_left
        · (intro w hSw; (try dsimp only at hSw); go_simp; try with_reducible rfl)
        (try simp only [Act.put, List.setIfInBounds_toArray, List.set_cons_zero, List.set_cons_succ])
        refine wpAnyH_ready (rs := [6]) (by kernel_rfl) (by simp) ?_
        refine AllReadyH.cons (o := ⟨some 30, _, _, _, _, _⟩) rfl (fun K hK => ?_) AllReadyH.nil
        rw [if_pos (by kernel_rfl)]
        go_simp
        go_at_fn 55; refine (HC.out _).mono ?_; rintro e wq ⟨rfl, hbr⟩
        refine hK.out _ _ ?_ (fun hHeld => ?_)
        · exact ⟨(hbr.cell (p := ⟨T, 0, none⟩) lT).trans t0, (hbr.cell (p := ⟨T, 1, none⟩) lT).trans t1, (hbr.cell (p := ⟨T, 2, none⟩) lT).trans t2, (hbr.cell (p := ⟨T, 3, none⟩) lT).trans t3, (hbr.cell (p := ⟨b, off + H * 4, none⟩) lb).trans c0, (hbr.cell (p := ⟨b, off + H * 4 + 1, none⟩) lb).trans c1, (hbr.cell (p := ⟨b, off + H * 4 + 2, none⟩) lb).trans c2, (hbr.cell (p := ⟨b, off + H * 4 + 3, none⟩) lb).trans c3⟩
        clear hK K
        (try simp only [Act.put, List.setIfInBounds_toArray, List.set_cons_zero, List.set_cons_succ])
        refine wpAnyH_take (i := 7) (oi := ⟨some 31, _, _, _, _, _⟩) (v := ?_) rfl (by kernel_rfl) (by kernel_rfl) (by kernel_rfl) (fun _ _ _ h => h) (Or.inl ⟨by kernel_rfl, ?_⟩) (by assumption) ?_
        rotate_left
        · (intro w hSw; (try dsimp only at hSw); go_simp; try with_reducible rfl)
        (try simp only [Act.put, List.setIfInBounds_toArray, List.set_cons_zero, List.set_cons_succ])
        refine wpAnyH_done (by kernel_rfl) ?_ _
        go_wp2_with fail
        go_roundg (j - (H + 1))
        case measure => have := HG.out; omega
        case rel => exact ⟨H + 1, j, by omega, by omega, hjn, rfl, by go_num, rfl, HBW.out.drew.trans (hbr.mono HBW.out.size)⟩
      · have hc := cmp_nonneg hlu
        obtain ⟨Z, hZ⟩ : ∃ Z, cmpI yu tu = Z := ⟨_, rfl⟩
        rw [hZ] at HC hc
        have hcd : decide (Z < 0) = false := decide_eq_false (by omega)
        have hHk : kk ≤ H := by
          exact Nat.le_of_not_lt fun e => hlu (HLS.out.2 e)
        clear hlu hZ hc
        go_wp2_with fail
        refine wp_region_held_drew (S := fun w' => w'.cell? ⟨T, 0, none⟩ = some (.int .i64 tu) ∧ w'.cell? ⟨T, 1, none⟩ = some (.int .i64 ts) ∧ w'.cell? ⟨T, 2, none⟩ = some (.int .i64 tc) ∧ w'.cell? ⟨T, 3, none⟩ = some (vx) ∧ w'.cell? ⟨b, off + H * 4, none⟩ = some (.int .i64 yu) ∧ w'.cell? ⟨b, off + H * 4 + 1, none⟩ = some (.int .i64 ys) ∧ w'.cell? ⟨b, off + H * 4 + 2, none⟩ = some (.int .i64 yc) ∧ w'.cell? ⟨b, off + H * 4 + 3, none⟩ = some (.slice B np d)) (by kernel_rfl) ?_ (fun hHeld => ?_)
        · exact ⟨t0, t1, t2, t3, c0, c1, c2, c3⟩
        refine wpAnyH_take (i := 0) (oi := ⟨some 24, _, _, _, _, _⟩) (v := ?_) rfl (by kernel_rfl) (by kernel_rfl) (by kernel_rfl) (fun _ _ _ h => h) (Or.inl ⟨by kernel_rfl, ?_⟩) (by assumption) ?_
        rotate_left
        · (intro w hSw; (try dsimp only at hSw); go_simp; try with_reducible rfl)
        (try simp only [Act.put, List.setIfInBounds_toArray, List.set_cons_zero, List.set_cons_succ])
        refine wpAnyH_take (i := 1) (oi := ⟨some 25, _, _, _, _, _⟩) (v := ?_) rfl (by kernel_rfl) (by kernel_rfl) (by kernel_rfl) (fun _ _ _ h => h) (Or.inl ⟨by kernel_rfl, ?_⟩) (by assumption) ?_
        rotate_left
        · (intro w hSw; (try dsimp only at hSw); go_simp; try with_reducible rfl)
        (try simp only [Act.put, List.setIfInBounds_toArray, List.set_cons_zero, List.set_cons_succ])
        refine wpAnyH_take (i := 2) (oi := ⟨some 26, _, _, _, _, _⟩) (v := ?_) rfl (by kernel_rfl) (by kernel_rfl) (by kernel_rfl) (fun _ _ _ h => h) (Or.inl ⟨by kernel_rfl, ?_⟩) (by assumption) ?_
        rotate_left
        · (intro w hSw; (try dsimp only at hSw); go_simp; try with_reducible rfl)
        (try simp only [Act.put, List.setIfInBounds_toArray, List.set_cons_zero, List.set_cons_succ])
        refine wpAnyH_take (i := 3) (oi := ⟨some 27, _, _, _, _, _⟩) (v := ?_) rfl (by kernel_rfl) (by kernel_rfl) (by kernel_rfl) (fun _ _ _ h => h) (Or.inl ⟨by kernel_rfl, ?_⟩) (by assumption) ?_
        rotate_left
        · (intro w hSw; (try dsimp only at hSw); go_simp; try with_reducible rfl)
        (try simp only [Act.put, List.setIfInBounds_toArray, List.set_cons_zero, List.set_cons_succ])
        refine wpAnyH_take (i := 4) (oi := ⟨some 28, _, _, _, _, _⟩) (v := ?_) rfl (by kernel_rfl) (by kernel_rfl) (by kernel_rfl) (fun _ _ _ h => h) (Or.inl ⟨by kernel_rfl, ?_⟩) (by assumption) ?_
        rotate_left
        · (intro w hSw; (try dsimp only at hSw); go_simp; try with_reducible rfl)
        (try simp only [Act.put, List.setIfInBounds_toArray, List.set_cons_zero, List.set_cons_succ])
        refine wpAnyH_take (i := 5) (oi := ⟨some 29, _, _, _, _, _⟩) (v := ?_) rfl (by kernel_rfl) (by kernel_rfl) (by kernel_rfl) (fun _ _ _ h => h) (Or.inl ⟨by kernel_rfl, ?_⟩) (by assumption) ?_
        rotate_left
        · (intro w hSw; (try dsimp only at hSw); go_simp; try with_reducible rfl)
        (try simp only [Act.put, List.setIfInBounds_toArray, List.set_cons_zero, List.set_cons_succ])
        refine wpAnyH_ready (rs := [6]) (by kernel_rfl) (by simp) ?_
        refine AllReadyH.cons (o := ⟨some 30, _, _, _, _, _⟩) rfl (fun K hK => ?_) AllReadyH.nil
        rw [if_pos (by kernel_rfl)]
        go_simp
        go_at_fn 55; refine (HC.out _).mono ?_; rintro e wq ⟨rfl, hbr⟩
        refine hK.out _ _ ?_ (fun hHeld => ?_)
        · exact ⟨(hbr.cell (p := ⟨T, 0, none⟩) lT).trans t0, (hbr.cell (p := ⟨T, 1, none⟩) lT).trans t1, (hbr.cell (p := ⟨T, 2, none⟩) lT).trans t2, (hbr.cell (p := ⟨T, 3, none⟩) lT).trans t3, (hbr.cell (p := ⟨b, off + H * 4, none⟩) lb).trans c0, (hbr.cell (p := ⟨b, off + H * 4 + 1, none⟩) lb).trans c1, (hbr.cell (p := ⟨b, off + H * 4 + 2, none⟩) lb).trans c2, (hbr.cell (p := ⟨b, off + H * 4 + 3, none⟩) lb).trans c3⟩
        clear hK K
        (try simp only [Act.put, List.setIfInBounds_toArray, List.set_cons_zero, List.set_cons_succ])
        refine wpAnyH_take (i := 7) (oi := ⟨some 31, _, _, _, _, _⟩) (v := ?_) rfl (by kernel_rfl) (by kernel_rfl) (by kernel_rfl) (fun _ _ _ h => h) (Or.inl ⟨by kernel_rfl, ?_⟩) (by assumption) ?_
        rotate_left
        · (intro w hSw; (try dsimp only at hSw); go_simp; try with_reducible rfl)
        (try simp only [Act.put, List.setIfInBounds_toArray, List.set_cons_zero, List.set_cons_succ])
        refine wpAnyH_done (by kernel_rfl) ?_ _
        go_wp2_with fail
        go_roundg (H - i)
        case measure => have := HG.out; omega
        case rel => exact ⟨i, H, hi, hHk, by omega, rfl, rfl, by go_num, HBW.out.drew.trans (hbr.mono HBW.out.size)⟩
    · have hijz : ¬ (i : Int) < (j : Int) := by omega
      obtain rfl : i = kk := by omega
      by_cases hin : i < n
      · have hinz : (i : Int) < (n : Int) := by omega
        have hi0 : (0 : Int) ≤ (i : Int) := by omega
        obtain ⟨y, hy⟩ := exP_at (xs := l) (k := i) (by rw [HN.out]; omega)
        obtain ⟨b, off, B, d, hA, hbl, _, ⟨c0, c1, c2, c3⟩, _⟩ := HLR.out.at_ hy
        subst hA
        simp only at c0 c1 c2 c3
        have HLS := Lib.hid (HK.out.less i y hy)
        obtain ⟨yu, ys, yc, yp⟩ := y
        simp only at c0 c1 c2 c3 HLS
        have HC := Lib.hid (fun W => HCU.out (.slice B yp.length d) ⟨yu, ys, yc, yp⟩ W)
        simp only at HC
        obtain ⟨np, hnp⟩ : ∃ np, yp.length = np := ⟨_, rfl⟩
        rw [hnp] at c3 HC
        have lb : b < wr.heap.size := hbl
        clear hnp hy hbl
        obtain ⟨Z, hZ⟩ : ∃ Z, cmpI yu tu = Z := ⟨_, rfl⟩
        rw [hZ] at HC
        clear hZ
        go_wp2_with fail
        refine wp_region_held_drew (S := fun w' => w'.cell? ⟨T, 0, none⟩ = some (.int .i64 tu) ∧ w'.cell? ⟨T, 1, none⟩ = some (.int .i64 ts) ∧ w'.cell? ⟨T, 2, none⟩ = some (.int .i64 tc) ∧ w'.cell? ⟨T, 3, none⟩ = some (vx) ∧ w'.cell? ⟨b, off + i * 4, none⟩ = some (.int .i64 yu) ∧ w'.cell? ⟨b, off + i * 4 + 1, none⟩ = some (.int .i64 ys) ∧ w'.cell? ⟨b, off + i * 4 + 2, none⟩ = some (.int .i64 yc) ∧ w'.cell? ⟨b, off + i * 4 + 3, none⟩ = some (.slice B np d)) (by kernel_rfl) ?_ (fun hHeld => ?_)
        · exact ⟨t0, t1, t2, t3, c0, c1, c2, c3⟩
        refine wpAnyH_take (i := 0) (oi := ⟨some 35, _, _, _, _, _⟩) (v := ?_) rfl (by kernel_rfl) (by kernel_rfl) (by kernel_rfl) (fun _ _ _ h => h) (Or.inl ⟨by kernel_rfl, ?_⟩) (by assumption) ?_
        rotate_left
        · (intro w hSw; (try dsimp only at hSw); go_simp; try with_reducible rfl)
        (try simp only [Act.put, List.setIfInBounds_toArray, List.set_cons_zero, List.set_cons_succ])
        refine wpAnyH_take (i := 1) (oi := ⟨some 36, _, _, _, _, _⟩) (v := ?_) rfl (by kernel_rfl) (by kernel_rfl) (by kernel_rfl) (fun _ _ _ h => h) (Or.inl ⟨by kernel_rfl, ?_⟩) (by assumption) ?_
        rotate_left
        · (intro w hSw; (try dsimp only at hSw); go_simp; try with_reducible rfl)
        (try simp only [Act.put, List.setIfInBounds_toArray, List.set_cons_zero, List.set_cons_succ])
        refine wpAnyH_take (i := 2) (oi := ⟨some 37, _, _, _, _, _⟩) (v := ?_) rfl (by kernel_rfl) (by kernel_rfl) (by kernel_rfl) (fun _ _ _ h => h) (Or.inl ⟨by kernel_rfl, ?_⟩) (by assumption) ?_
        rotate_left
        · (intro w hSw; (try dsimp only at hSw); go_simp; try with_reducible rfl)
        (try simp only [Act.put, List.setIfInBounds_toArray, List.set_cons_zero, List.set_cons_succ])
        refine wpAnyH_take (i := 3) (oi := ⟨some 38, _, _, _, _, _⟩) (v := ?_) rfl (by kernel_rfl) (by kernel_rfl) (by kernel_rfl) (fun _ _ _ h => h) (Or.inl ⟨by kernel_rfl, ?_⟩) (by assumption) ?_
        rotate_left
        · (intro w hSw; (try dsimp only at hSw); go_simp; try with_reducible rfl)
        (try simp only [Act.put, List.setIfInBounds_toArray, List.set_cons_zero, List.set_cons_succ])
        refine wpAnyH_take (i := 4) (oi := ⟨some 39, _, _, _, _, _⟩) (v := ?_) rfl (by kernel_rfl) (by kernel_rfl) (by kernel_rfl) (fun _ _ _ h => h) (Or.inl ⟨by kernel_rfl, ?_⟩) (by assumption) ?_
        rotate_left
        · (intro w hSw; (try dsimp only at hSw); go_simp; try with_reducible rfl)
        (try simp only [Act.put, List.setIfInBounds_toArray, List.set_cons_zero, List.set_cons_succ])
        refine wpAnyH_take (i := 5) (oi := ⟨some 40, _, _, _, _, _⟩) (v := ?_) rfl (by kernel_rfl) (by kernel_rfl) (by kernel_rfl) (fun _ _ _ h => h) (Or.inl ⟨by kernel_rfl, ?_⟩) (by assumption) ?_
        rotate_left
        · (intro w hSw; (try dsimp only at hSw); go_simp; try with_reducible rfl)
        (try simp only [Act.put, List.setIfInBounds_toArray, List.set_cons_zero, List.set_cons_succ])
        refine wpAnyH_take (i := 6) (oi := ⟨some 41, _, _, _, _, _⟩) (v := ?_) rfl (by kernel_rfl) (by kernel_rfl) (by kernel_rfl) (fun _ _ _ h => h) (Or.inl ⟨by kernel_rfl, ?_⟩) (by assumption) ?_
        rotate_left
        · (intro w hSw; (try dsimp only at hSw); go_simp; try with_reducible rfl)
        (try simp only [Act.put, List.setIfInBounds_toArray, List.set_cons_zero, List.set_cons_succ])
        refine wpAnyH_take (i := 7) (oi := ⟨some 42, _, _, _, _, _⟩) (v := ?_) rfl (by kernel_rfl) (by kernel_rfl) (by kernel_rfl) (fun _ _ _ h => h) (Or.inl ⟨by kernel_rfl, ?_⟩) (by assumption) ?_
        rotate_left
        · (intro w hSw; (try dsimp only at hSw); go_simp; try with_reducible rfl)
        (try simp only [Act.put, List.setIfInBounds_toArray, List.set_cons_zero, List.set_cons_succ])
        refine wpAnyH_take (i := 8) (oi := ⟨some 43, _, _, _, _, _⟩) (v := ?_) rfl (by kernel_rfl) (by kernel_rfl) (by kernel_rfl) (fun _ _ _ h => h) (Or.inl ⟨by kernel_rfl, ?_⟩) (by assumption) ?_
        rotate_left
        · (intro w hSw; (try dsimp only at hSw); go_simp; try with_reducible rfl)
        (try simp only [Act.put, List.setIfInBounds_toArray, List.set_cons_zero, List.set_cons_succ])
        refine wpAnyH_take (i := 9) (oi := ⟨some 44, _, _, _, _, _⟩) (v := ?_) rfl (by kernel_rfl) (by kernel_rfl) (by kernel_rfl) (fun _ _ _ h => h) (Or.inl ⟨by kernel_rfl, ?_⟩) (by assumption) ?_
        rotate_left
        · (intro w hSw; (try dsimp only at hSw); go_simp; try with_reducible rfl)
        (try simp only [Act.put, List.setIfInBounds_toArray, List.set_cons_zero, List.set_cons_succ])
        refine wpAnyH_take (i := 10) (oi := ⟨some 45, _, _, _, _, _⟩) (v := ?_) rfl (by kernel_rfl) (by kernel_rfl) (by kernel_rfl) (fun _ _ _ h => h) (Or.inl ⟨by kernel_rfl, ?_⟩) (by assumption) ?_
        rotate_left
        · (intro w hSw; (try dsimp only at hSw); go_simp; try with_reducible rfl)
        (try simp only [Act.put, List.setIfInBounds_toArray, List.set_cons_zero, List.set_cons_succ])
        refine wpAnyH_ready (rs := [11]) (by kernel_rfl) (by simp) ?_
        refine AllReadyH.cons (o := ⟨some 46, _, _, _, _, _⟩) rfl (fun K hK => ?_) AllReadyH.nil
        rw [if_pos (by kernel_rfl)]
        go_simp
        go_at_fn 55; refine (HC.out _).mono ?_; rintro e wq ⟨rfl, hbr⟩
        refine hK.out _ _ ?_ (fun hHeld => ?_)
        · exact ⟨(hbr.cell (p := ⟨T, 0, none⟩) lT).trans t0, (hbr.cell (p := ⟨T, 1, none⟩) lT).trans t1, (hbr.cell (p := ⟨T, 2, none⟩) lT).trans t2, (hbr.cell (p := ⟨T, 3, none⟩) lT).trans t3, (hbr.cell (p := ⟨b, off + i * 4, none⟩) lb).trans c0, (hbr.cell (p := ⟨b, off + i * 4 + 1, none⟩) lb).trans c1, (hbr.cell (p := ⟨b, off + i * 4 + 2, none⟩) lb).trans c2, (hbr.cell (p := ⟨b, off + i * 4 + 3, none⟩) lb).trans c3⟩
        clear hK K
        (try simp only [Act.put, List.setIfInBounds_toArray, List.set_cons_zero, List.set_cons_succ])
        refine wpAnyH_take (i := 12) (oi := ⟨some 47, _, _, _, _, _⟩) (v := ?_) rfl (by kernel_rfl) (by kernel_rfl) (by kernel_rfl) (fun _ _ _ h => h) (Or.inl ⟨by kernel_rfl, ?_⟩) (by assumption) ?_
        rotate_left
        · (intro w hSw; (try dsimp only at hSw); go_simp; try with_reducible rfl)
        (try simp only [Act.put, List.setIfInBounds_toArray, List.set_cons_zero, List.set_cons_succ])
        refine wpAnyH_take (i := 13) (oi := ⟨some 48, _, _, _, _, _⟩) (v := ?_) rfl (by kernel_rfl) (by kernel_rfl) (by kernel_rfl) (fun _ _ _ h => h) (Or.inl ⟨by kernel_rfl, ?_⟩) (by assumption) ?_
        rotate_left
        · (intro w hSw; (try dsimp only at hSw); go_simp; try with_reducible rfl)
        (try simp only [Act.put, List.setIfInBounds_toArray, List.set_cons_zero, List.set_cons_succ])
        refine wpAnyH_take (i := 14) (oi := ⟨some 6, _, _, _, _, _⟩) (v := ?_) rfl (by kernel_rfl) (by kernel_rfl) (by kernel_rfl) (fun _ _ _ h => h) (Or.inl ⟨by kernel_rfl, ?_⟩) (by assumption) ?_
        rotate_left
        · (intro w hSw; (try dsimp only at hSw); go_simp; try with_reducible rfl)
        (try simp only [Act.put, List.setIfInBounds_toArray, List.set_cons_zero, List.set_cons_succ])
        refine wpAnyH_take (i := 15) (oi := ⟨some 7, _, _, _, _, _⟩) (v := ?_) rfl (by kernel_rfl) (by kernel_rfl) (by kernel_rfl) (fun _ _ _ h => h) (Or.inl ⟨by kernel_rfl, ?_⟩) (by assumption) ?_
        rotate_left
        · (intro w hSw; (try dsimp only at hSw); go_simp; try with_reducible rfl)
        (try simp only [Act.put, List.setIfInBounds_toArray, List.set_cons_zero, List.set_cons_succ])
        refine wpAnyH_done (by kernel_rfl) ?_ _
        go_wp2_with fail
        go_ret2
        exact ⟨_, rfl, HB.out.drew.trans (hbr.mono HB.out.size)⟩
      · have hinz : ¬ (i : Int) < (n : Int) := by omega
        go_wp2_with fail
        refine wp_region_held_drew (S := fun w' => w'.cell? ⟨T, 0, none⟩ = some (.int .i64 tu) ∧ w'.cell? ⟨T, 1, none⟩ = some (.int .i64 ts) ∧ w'.cell? ⟨T, 2, none⟩ = some (.int .i64 tc) ∧ w'.cell? ⟨T, 3, none⟩ = some (vx)) (by kernel_rfl) ?_ (fun hHeld => ?_)
        · exact ⟨t0, t1, t2, t3⟩
        refine wpAnyH_take (i := 0) (oi := ⟨some 35, _, _, _, _, _⟩) (v := ?_) rfl (by kernel_rfl) (by kernel_rfl) (by kernel_rfl) (fun _ _ _ h => h) (Or.inl ⟨by kernel_rfl, ?_⟩) (by assumption) ?_
        rotate_left
        · (intro w hSw; (try dsimp only at hSw); go_simp; try with_reducible rfl)
        (try simp only [Act.put, List.setIfInBounds_toArray, List.set_cons_zero, List.set_cons_succ])
        refine wpAnyH_take (i := 1) (oi := ⟨some 36, _, _, _, _, _⟩) (v := ?_) rfl (by kernel_rfl) (by kernel_rfl) (by kernel_rfl) (fun _ _ _ h => h) (Or.inl ⟨by kernel_rfl, ?_⟩) (by assumption) ?_
        rotate_left
        · (intro w hSw; (try dsimp only at hSw); go_simp; try with_reducible rfl)
        (try simp only [Act.put, List.setIfInBounds_toArray, List.set_cons_zero, List.set_cons_succ])
        refine wpAnyH_take (i := 2) (oi := ⟨some 37, _, _, _, _, _⟩) (v := ?_) rfl (by kernel_rfl) (by kernel_rfl) (by kernel_rfl) (fun _ _ _ h => h) (Or.inl ⟨by kernel_rfl, ?_⟩) (by assumption) ?_
        rotate_left
        · (intro w hSw; (try dsimp only at hSw); go_simp; try with_reducible rfl)
        (try simp only [Act.put, List.setIfInBounds_toArray, List.set_cons_zero, List.set_cons_succ])
        refine wpAnyH_take (i := 3) (oi := ⟨some 38, _, _, _, _, _⟩) (v := ?_) rfl (by kernel_rfl) (by kernel_rfl) (by kernel_rfl) (fun _ _ _ h => h) (Or.inl ⟨by kernel_rfl, ?_⟩) (by assumption) ?_
        rotate_left
        · (intro w hSw; (try dsimp only at hSw); go_simp; try with_reducible rfl)
        (try simp only [Act.put, List.setIfInBounds_toArray, List.set_cons_zero, List.set_cons_succ])
        refine wpAnyH_take (i := 4) (oi := ⟨some 39, _, _, _, _, _⟩) (v := ?_) rfl (by kernel_rfl) (by kernel_rfl) (by kernel_rfl) (fun _ _ _ h => h) (Or.inl ⟨by kernel_rfl, ?_⟩) (by assumption) ?_
        rotate_left
        · (intro w hSw; (try dsimp only at hSw); go_simp; try with_reducible rfl)
        (try simp only [Act.put, List.setIfInBounds_toArray, List.set_cons_zero, List.set_cons_succ])
        refine wpAnyH_take (i := 5) (oi := ⟨some 40, _, _, _, _, _⟩) (v := undef) rfl (by kernel_rfl) (by kernel_rfl) (by kernel_rfl) (fun _ _ _ h => h) (Or.inr ⟨by kernel_rfl, rfl⟩) (by assumption) ?_
        (try simp only [Act.put, List.setIfInBounds_toArray, List.set_cons_zero, List.set_cons_succ])
        refine wpAnyH_take (i := 6) (oi := ⟨some 41, _, _, _, _, _⟩) (v := undef) rfl (by kernel_rfl) (by kernel_rfl) (by kernel_rfl) (fun _ _ _ h => h) (Or.inr ⟨by kernel_rfl, rfl⟩) (by assumption) ?_
        (try simp only [Act.put, List.setIfInBounds_toArray, List.set_cons_zero, List.set_cons_succ])
        refine wpAnyH_take (i := 7) (oi := ⟨some 42, _, _, _, _, _⟩) (v := undef) rfl (by kernel_rfl) (by kernel_rfl) (by kernel_rfl) (fun _ _ _ h => h) (Or.inr ⟨by kernel_rfl, rfl⟩) (by assumption) ?_
        (try simp only [Act.put, List.setIfInBounds_toArray, List.set_cons_zero, List.set_cons_succ])
        refine wpAnyH_take (i := 8) (oi := ⟨some 43, _, _, _, _, _⟩) (v := undef) rfl (by kernel_rfl) (by kernel_rfl) (by kernel_rfl) (fun _ _ _ h => h) (Or.inr ⟨by kernel_rfl, rfl⟩) (by assumption) ?_
        (try simp only [Act.put, List.setIfInBounds_toArray, List.set_cons_zero, List.set_cons_succ])
        refine wpAnyH_take (i := 9) (oi := ⟨some 44, _, _, _, _, _⟩) (v := undef) rfl (by kernel_rfl) (by kernel_rfl) (by kernel_rfl) (fun _ _ _ h => h) (Or.inr ⟨by kernel_rfl, rfl⟩) (by assumption) ?_
        (try simp only [Act.put, List.setIfInBounds_toArray, List.set_cons_zero, List.set_cons_succ])
        refine wpAnyH_take (i := 10) (oi := ⟨some 45, _, _, _, _, _⟩) (v := undef) rfl (by kernel_rfl) (by kernel_rfl) (by kernel_rfl) (fun _ _ _ h => h) (Or.inr ⟨by kernel_rfl, rfl⟩) (by assumption) ?_
        (try simp only [Act.put, List.setIfInBounds_toArray, List.set_cons_zero, List.set_cons_succ])
        refine wpAnyH_take (i := 11) (oi := ⟨some 46, _, _, _, _, _⟩) (v := undef) rfl (by kernel_rfl) (by kernel_rfl) (by kernel_rfl) (fun _ _ _ h => h) (Or.inr ⟨by kernel_rfl, rfl⟩) (by assumption) ?_
        (try simp only [Act.put, List.setIfInBounds_toArray, List.set_cons_zero, List.set_cons_succ])
        refine wpAnyH_take (i := 12) (oi := ⟨some 47, _, _, _, _, _⟩) (v := undef) rfl (by kernel_rfl) (by kernel_rfl) (by kernel_rfl) (fun _ _ _ h => h) (Or.inr ⟨by kernel_rfl, rfl⟩) (by assumption) ?_
        (try simp only [Act.put, List.setIfInBounds_toArray, List.set_cons_zero, List.set_cons_succ])
        refine wpAnyH_take (i := 13) (oi := ⟨some 48, _, _, _, _, _⟩) (v := ?_) rfl (by kernel_rfl) (by kernel_rfl) (by kernel_rfl) (fun _ _ _ h => h) (Or.inl ⟨by kernel_rfl, ?_⟩) (by assumption) ?_
        rotate_left
        · (intro w hSw; (try dsimp only at hSw); go_simp; try with_reducible rfl)
        (try simp only [Act.put, List.setIfInBounds_toArray, List.set_cons_zero, List.set_cons_succ])
        refine wpAnyH_take (i := 14) (oi := ⟨some 6, _, _, _, _, _⟩) (v := ?_) rfl (by kernel_rfl) (by kernel_rfl) (by kernel_rfl) (fun _ _ _ h => h) (Or.inl ⟨by kernel_rfl, ?_⟩) (by assumption) ?_
        rotate_left
        · (intro w hSw; (try dsimp only at hSw); go_simp; try with_reducible rfl)
        (try simp only [Act.put, List.setIfInBounds_toArray, List.set_cons_zero, List.set_cons_succ])
        refine wpAnyH_take (i := 15) (oi := ⟨some 7, _, _, _, _, _⟩) (v := ?_) rfl (by kernel_rfl) (by kernel_rfl) (by kernel_rfl) (fun _ _ _ h => h) (Or.inl ⟨by kernel_rfl, ?_⟩) (by assumption) ?_
        rotate_left
        · (intro w hSw; (try dsimp only at hSw); go_simp; try with_reducible rfl)
        (try simp only [Act.put, List.setIfInBounds_toArray, List.set_cons_zero, List.set_cons_succ])
        refine wpAnyH_done (by kernel_rfl) ?_ _
        go_wp2_with fail
        go_ret2
        exact ⟨_, rfl, HB.out.drew⟩
end Go.Proofs.Ytajgebcaobknoaa

/-
  Put of the program.
  Conditions: the slices read as places, as pieces; where the place belongs is told.
-/
set_option linter.unusedVariables false
set_option linter.unusedSimpArgs false
namespace Go.Proofs.Ytajgebcaobknoaa
open Go.RowKit Go.Sort

theorem ins_pls (ls : List Rp) (k : Nat) (r : Rp) : plsR (ls.take k ++ [r] ++ ls.drop k) = putPl (plsR ls) r.2 k := by rw [plsR_append, plsR_append, plsR_take, plsR_drop]; rfl
theorem all_ins {F : Nat → Prop} {W : World} {ls : List Rp} {k : Nat} {r : Rp} (h : AllPcs F W ls) (hr : PcsIn F W (rpV r) r.2.ps) : AllPcs F W (ls.take k ++ [r] ++ ls.drop k) := fun y hy => by
  rcases List.mem_append.1 hy with hy | hy
  · rcases List.mem_append.1 hy with hy | hy
    · exact h y (List.mem_of_mem_take hy)
    · rw [List.mem_singleton.1 hy]; exact hr
  · exact h y (List.mem_of_mem_drop hy)

set_option maxRecDepth 100000 in
set_option maxHeartbeats 8000000 in
theorem planPut_any (f : Int) (m : Nat) (v vx : Value) (l : List Pl) (x : Pl) (w : World) (h : PlsAt w v l) (hx : PcsAt w vx x.ps) (hl : l.length ≤ 999) (hp : ∀ y ∈ l, y.ps.length ≤ 1000) (hxl : x.ps.length ≤ 1000) (kk : Nat) (hk : PutAt (dropT l x.u) x.u kk) :
    Calls Try.prog 28 #[planA f m v, plA vx x] w (RetPn (fun b => w.heap.size ≤ b) f m (putPl (dropT l x.u) x kk) w) := by
  have mixed : Try.prog.follows .mixedOrders = true := by kernel_rfl
  obtain ⟨B, dd, rfl⟩ := hx.form
  obtain ⟨w1, P, hw1, hP, hPl, hb1, hbox⟩ := box_any w #[.int .i64 f, .int .u32 m, v] 25
  obtain ⟨w2, X, hw2, hX, hXl, hb2, hxox⟩ := box_any w1 #[.int .i64 x.u, .int .i64 x.s, .int .i64 x.c, .slice B x.ps.length dd] 41
  obtain ⟨w3, R, hw3, hR, hRl, hb3, hrox⟩ := box_any w2 #[.int .i64 0, .int .u32 0, .slice none 0 0] 25
  have HB3 := Lib.hid ((hb1.trans (hb2.mono hb1.size)).trans (hb3.mono (Nat.le_trans hb1.size hb2.size)))
  have HPB := Lib.hid (keep_block (keep_block hbox hb2) hb3)
  have HXB := Lib.hid (keep_block hxox hb3)
  have HRB := Lib.hid hrox
  have HLT := Lib.hid (show w.heap.size ≤ P ∧ P < X ∧ X < R ∧ R < w3.heap.size by have := hb1.size; have := hb2.size; omega)
  have HXP := Lib.hid hx
  have HXL := Lib.hid hxl
  have HD := Lib.hid (planDrop_any f m v l x.u w3 (h.keep HB3.out) (by omega) hp)
  have hdl : (dropT l x.u).length ≤ 999 := Nat.le_trans (drop_le _ _) hl
  obtain ⟨p0, p1, p2⟩ := three_heads HPB.out
  obtain ⟨x0, x1, x2, x3⟩ := four_heads HXB.out
  unfold planA at HD ⊢
  unfold plA
  have HK := Lib.hid hk
  unfold RetRow planA at HD
  generalize dropT l x.u = d at *
  have HDL := Lib.hid hdl
  clear h hx hl hp hk hb1 hb2 hb3 hbox hxox hrox hxl
  go_enter Try.func28, Try.ntmps28
  go_wp2_with fail
  refine HD.out.mono ?_
  rintro e w4 ⟨v1, ls, rfl, hls, hrow, hb4⟩
  obtain ⟨A1, c1, hv1⟩ := own_form hrow.own
  obtain ⟨n, hn⟩ : ∃ n, ls.length = n := ⟨_, rfl⟩
  rw [hn] at hv1
  subst hv1
  have HLS := Lib.hid hls
  have HN := Lib.hid hn
  have HB4 := Lib.hid (HB3.out.trans (hb4.mono HB3.out.size))
  have HP4 := Lib.hid (keep_block HPB.out hb4)
  have HX4 := Lib.hid (keep_block HXB.out hb4)
  have HR4 := Lib.hid (keep_block HRB.out hb4)
  have hlt := HLT.out
  have hs4 := hb4.size
  have HS4 := Lib.hid hs4
  obtain ⟨w5, hw5⟩ : ∃ w5, w4.setRow P #[.int .i64 f, .int .u32 m, .slice A1 n c1] = w5 := ⟨_, rfl⟩
  have HS5 : Hid (w5.heap.size = w4.heap.size) := Lib.hid (by rw [← hw5]; simp)
  have HB5 : Hid (Below w.heap.size w w5) := Lib.hid (by rw [← hw5]; exact below_row HB4.out hlt.1 _)
  have HP5 : Hid (w5.heap[P]? = some (.cells #[.int .i64 f, .int .u32 m, .slice A1 n c1] 25 (0, 0))) := Lib.hid (by rw [← hw5]; exact setRow_heap _ _ _ _ _ _ HP4.out)
  have HX5 : Hid (w5.heap[X]? = some (.cells #[.int .i64 x.u, .int .i64 x.s, .int .i64 x.c, .slice B x.ps.length dd] 41 (0, 0))) := Lib.hid (by rw [← hw5]; exact (setRow_other _ _ _ _ (by omega)).trans HX4.out)
  have HR5 : Hid (w5.heap[R]? = some (.cells #[.int .i64 0, .int .u32 0, .slice none 0 0] 25 (0, 0))) := Lib.hid (by rw [← hw5]; exact (setRow_other _ _ _ _ (by omega)).trans HR4.out)
  have HXP5 : Hid (PcsAt w5 (.slice B x.ps.length dd) x.ps) := Lib.hid (by
    rw [← hw5]
    exact (((HXP.out.mono (G := fun b => b < w.heap.size) fun b hb _ => hb).keep HB4.out).setRow (.inl fun h => by omega)).any)
  have HROW : Hid (RowPl w5 w3.heap.size (fun b => w3.heap.size ≤ b) (.slice A1 n c1) ls) := Lib.hid (by
    rw [← hw5]
    exact hrow.at_base (Nat.le_refl _) (by simp) fun b hb => setRow_other _ _ _ _ (by omega))
  have HPL := Lib.hid (pls_of_own HROW.out.own HROW.out.pcs)
  rw [HLS.out] at HPL
  have HBS := Lib.hid (binary_any (.slice A1 n c1) (.slice B x.ps.length dd) d x.u x.s x.c kk w5 HPL.out.any (by have := HDL.out; omega) HK.out)
  clear hb4 p0 p1 p2 x0 x1 x2 x3 hw1 hP hw2 hX hw3 hR hs4 hrow hls
  obtain ⟨p0, p1, p2⟩ := three_heads HP5.out
  obtain ⟨x0, x1, x2, x3⟩ := four_heads HX5.out
  go_wp2_with (refine wpList_store_row rfl _ _ _ rfl P #[.int .i64 f, .int .u32 m, .slice A1 n c1] rfl rfl 25 _ HP4.out (Try.sizePn _ _ _) rfl (one3 _ _ _ _ _) ?_)
  refine HBS.out.mono ?_
  rintro e w6 ⟨fd, rfl, hb6⟩
  have HK6 := Lib.hid hb6
  have HCL := Lib.hid (fun W (hk : Below w5.heap.size w5 W) => clonePl_any (.slice B x.ps.length dd) x W (HXP5.out.keep hk) HXL.out)
  unfold RetPl plA at HCL
  have HX6 := Lib.hid (fun W (hk : Below w5.heap.size w5 W) => four_heads (keep_block HX5.out hk))
  have HP6 := Lib.hid (fun W (hk : Below w5.heap.size w5 W) => three_heads (keep_block HP5.out hk))
  have hk0 : Below w5.heap.size w5 w6.drew := HK6.out.drew
  have HKN : Hid (kk ≤ ls.length) := Lib.hid (by rw [← plsR_length, HLS.out]; exact HK.out.le)
  have HLL : Hid (ls.length ≤ 1000) := Lib.hid (by rw [← plsR_length, HLS.out]; have := HDL.out; omega)
  clear hb6 p0 p1 p2 x0 x1 x2 x3 hw5
  go_wp2_with fail
  refine wp_region_held_drew (S := fun w' => w'.cell? ⟨X, 0, none⟩ = some (.int .i64 x.u) ∧ w'.cell? ⟨X, 1, none⟩ = some (.int .i64 x.s) ∧ w'.cell? ⟨X, 2, none⟩ = some (.int .i64 x.c) ∧ w'.cell? ⟨X, 3, none⟩ = some (.slice B x.ps.length dd)) (by kernel_rfl) ?_ (fun hHeld => ?_)
  · exact HX6.out _ hk0
  refine wpAnyH_take (i := 0) (oi := ⟨some 18, _, _, _, _, _⟩) (v := ?_) rfl (by kernel_rfl) (by kernel_rfl) (by kernel_rfl) (fun _ _ _ h => h) (Or.inl ⟨by kernel_rfl, ?_⟩) (by assumption) ?_
  rotate_left
  · (intro w hSw; (try dsimp only at hSw); go_simp; try with_reducible rfl)
  (try simp only [Act.put, List.setIfInBounds_toArray, List.set_cons_zero, List.set_cons_succ])
  refine wpAnyH_take (i := 2) (oi := ⟨some 20, _, _, _, _, _⟩) (v := ?_) rfl (by kernel_rfl) (by kernel_rfl) (by kernel_rfl) (fun _ _ _ h => h) (Or.inl ⟨by kernel_rfl, ?_⟩) (by assumption) ?_
  rotate_left
  · (intro w hSw; (try dsimp only at hSw); go_simp; try with_reducible rfl)
  (try simp only [Act.put, List.setIfInBounds_toArray, List.set_cons_zero, List.set_cons_succ])
  refine wpAnyH_take (i := 3) (oi := ⟨some 21, _, _, _, _, _⟩) (v := ?_) rfl (by kernel_rfl) (by kernel_rfl) (by kernel_rfl) (fun _ _ _ h => h) (Or.inl ⟨by kernel_rfl, ?_⟩) (by assumption) ?_
  rotate_left
  · (intro w hSw; (try dsimp only at hSw); go_simp; try with_reducible rfl)
  (try simp only [Act.put, List.setIfInBounds_toArray, List.set_cons_zero, List.set_cons_succ])
  refine wpAnyH_ready (rs := [1, 4]) (by kernel_rfl) (by simp) ?_
  refine AllReadyH.cons (o := ⟨some 19, _, _, _, _, _⟩) rfl (fun K hK => ?_) (AllReadyH.cons (o := ⟨some 22, _, _, _, _, _⟩) rfl (fun K hK => ?_) AllReadyH.nil)
  · obtain ⟨p0, p1, p2⟩ := HP6.out _ hk0
    rw [if_pos (by kernel_rfl)]
    go_simp
    refine hK.out _ _ ?_ (fun hHeld => ?_)
    · exact HX6.out _ hk0
    clear hK K p0 p1 p2
    (try simp only [Act.put, List.setIfInBounds_toArray, List.set_cons_zero, List.set_cons_succ])
    refine wpAnyH_ready (rs := [4]) (by kernel_rfl) (by simp) ?_
    refine AllReadyH.cons (o := ⟨some 22, _, _, _, _, _⟩) rfl (fun K hK => ?_) AllReadyH.nil
    rw [if_pos (by kernel_rfl)]
    go_simp
    go_at_call 53; refine (HCL.out _ hk0).mono ?_; rintro e wq ⟨vc, rfl, hps, hb⟩
    obtain ⟨Ac, dc, rfl⟩ := hps.form
    have hkA := hk0.trans (hb.mono hk0.size)
    have hsA := hk0.size
    refine hK.out _ _ ?_ (fun hHeld => ?_)
    · exact HX6.out _ hkA
    clear hK K
    (try simp only [Act.put, List.setIfInBounds_toArray, List.set_cons_zero, List.set_cons_succ])
    refine wpAnyH_ready (rs := [5]) (by kernel_rfl) (by simp) ?_
    refine AllReadyH.cons (o := ⟨some 23, _, _, _, _, _⟩) rfl (fun K hK => ?_) AllReadyH.nil
    obtain ⟨wN, N, hwN, hN, hNl, hbN, hNb⟩ := box_any wq #[.int .i64 x.u, .int .i64 x.s, .int .i64 x.c, .slice Ac x.ps.length dc] 41
    have hkN := hkA.trans (hbN.mono hkA.size)
    rw [if_pos (by kernel_rfl)]
    go_simp
    refine hK.out _ _ ?_ (fun hHeld => ?_)
    · exact HX6.out _ hkN
    clear hK K
    (try simp only [Act.put, List.setIfInBounds_toArray, List.set_cons_zero, List.set_cons_succ])
    refine wpAnyH_ready (rs := [6]) (by kernel_rfl) (by simp) ?_
    refine AllReadyH.cons (o := ⟨some 24, _, _, _, _, _⟩) rfl (fun K hK => ?_) AllReadyH.nil
    have hrN := HROW.out.keep hkN
    have hoN := hrN.own
    have hne : (Value.slice A1 n c1).ownBlock ≠ some N := fun e => by have := own_lt (HROW.out.keep hkA).own e; omega
    have hpN : PcsIn (fun b => w3.heap.size ≤ b ∧ (Value.slice A1 n c1).ownBlock ≠ some b) wN (rpV ((Ac, dc), x)) x.ps := (hps.keep hbN).mono fun b _ hF => ⟨by have := HS5.out; have := HS4.out; omega, fun e => by have := own_lt HROW.out.own e; omega⟩
    have hIN := insert_any w3.heap.size (.slice A1 n c1) ls kk ((Ac, dc), x) N wN hoN HKN.out HLL.out (by have := hkN.size; have := HS5.out; have := HS4.out; omega) hNb hne
    unfold RetMp at hIN
    rw [if_pos (by kernel_rfl)]
    go_simp
    go_at_call 56; refine hIN.mono ?_; rintro e wI ⟨vI, rfl, hownI, hapI, hgrI⟩
    have hall := all_ins (k := kk) hrN.pcs hpN
    have hallI : AllPcs (fun b => w3.heap.size ≤ b ∧ (Value.slice A1 n c1).ownBlock ≠ some b) wI (ls.take kk ++ [((Ac, dc), x)] ++ ls.drop kk) := hall.keepF hapI.size fun b hb hF => hapI.block b hb hF.2
    have hold : ∀ b, b < w3.heap.size → wI.heap[b]? = w5.heap[b]? := fun b hb => (hapI.block b (by have := hkN.size; have := HS5.out; have := HS4.out; omega) (fun e => by have := own_base5 HROW.out.own b e; omega)).trans (hkN.block b (by have := HS5.out; have := HS4.out; omega))
    have HPI := Lib.hid ((hold P (by omega)).trans HP5.out)
    have HXI := Lib.hid ((hold X (by omega)).trans HX5.out)
    have HRI := Lib.hid ((hold R (by omega)).trans HR5.out)
    have HBI : Hid (Below w.heap.size w wI) := Lib.hid ((HB5.out.trans (hkN.mono HB5.out.size)).trans (hapI.below (by have := HB5.out.size; have := hkN.size; omega) fun b hb e => by have := own_base5 HROW.out.own b e; omega))
    obtain ⟨AI, cI, hvI⟩ := own_form hownI
    obtain ⟨NI, hNI⟩ : ∃ NI, (ls.take kk ++ [(((Ac, dc), x) : Rp)] ++ ls.drop kk).length = NI := ⟨_, rfl⟩
    rw [hNI] at hvI
    subst hvI
    have HPN := Lib.hid (pls_of_own hownI (hallI.mono (G := fun b => w3.heap.size ≤ b) fun b _ hF => hF.1))
    rw [ins_pls, HLS.out] at HPN
    refine hK.out _ _ ?_ (fun hHeld => ?_)
    · exact four_heads HXI.out
    clear hK K
    (try simp only [Act.put, List.setIfInBounds_toArray, List.set_cons_zero, List.set_cons_succ])
    clear hIN hoN hrN hpN hall hallI hapI hgrI hownI hold hNb hbN hwN
    refine wpAnyH_take (i := 7) (oi := ⟨some 25, _, _, _, _, _⟩) (v := ?_) rfl (by kernel_rfl) (by kernel_rfl) (by kernel_rfl) (fun _ _ _ h => h) (Or.inl ⟨by kernel_rfl, ?_⟩) (by assumption) ?_
    rotate_left
    · (intro w hSw; (try dsimp only at hSw); go_simp; try with_reducible rfl)
    (try simp only [Act.put, List.setIfInBounds_toArray, List.set_cons_zero, List.set_cons_succ])
    obtain ⟨p0, p1, p2⟩ := three_heads HPI.out
    obtain ⟨fr⟩ : wI.frozen? ⟨P, 2, none⟩ = false ∧ True := ⟨by have e := HPI.out; simp [World.frozen?, e], trivial⟩
    have HX9 : Hid ((wI.setCell ⟨P, 2, none⟩ (.slice AI NI cI)).heap[X]? = some (.cells #[.int .i64 x.u, .int .i64 x.s, .int .i64 x.c, .slice B x.ps.length dd] 41 (0, 0))) := (Below.heap_setCell _ _ _ _ (show X ≠ P by omega)).trans HXI.out
    have HP9 : Hid ((wI.setCell ⟨P, 2, none⟩ (.slice AI NI cI)).heap[P]? = some (.cells #[.int .i64 f, .int .u32 m, .slice AI NI cI] 25 (0, 0))) := heap_setCell_mem _ _ _ _ _ _ _ HPI.out
    have HR9 : Hid ((wI.setCell ⟨P, 2, none⟩ (.slice AI NI cI)).heap[R]? = some (.cells #[.int .i64 0, .int .u32 0, .slice none 0 0] 25 (0, 0))) := (Below.heap_setCell _ _ _ _ (show R ≠ P by omega)).trans HRI.out
    refine wpAnyH_ready (rs := [8]) (by kernel_rfl) (by simp) ?_
    refine AllReadyH.cons (o := ⟨none, _, _, _, _, _⟩) rfl (fun K hK => ?_) AllReadyH.nil
    rw [if_pos (by kernel_rfl)]
    go_simp
    refine hK.out _ _ ?_ (fun hHeld => ?_)
    · exact four_heads HX9.out
    clear hK K p0 p1 p2
    (try simp only [Act.put, List.setIfInBounds_toArray, List.set_cons_zero, List.set_cons_succ])
    refine wpAnyH_done (by kernel_rfl) ?_ _
    obtain ⟨g0, g1, g2⟩ := three_heads HP9.out
    go_wp2_with (refine wpList_store_row rfl _ _ _ rfl R #[.int .i64 f, .int .u32 m, .slice AI NI cI] rfl rfl 25 _ HR9.out (Try.sizePn _ _ _) rfl (one3 _ _ _ _ _) ?_)
    refine bodyPost_ret (v := planA f m (.slice AI NI cI)) (results_cell_row rfl _ _ R _ _ _ _ rfl (setRow_heap _ _ _ _ _ _ HR9.out) Try.underlying25 rfl (Try.sizePn _ _ _)) rfl ?_
    have hend := pn_end (w := w) (W := wI) (P := P) (R := R) (l := putPl d x kk) (F := fun b => w3.heap.size ≤ b ∨ w3.heap.size ≤ b) HPN.out (by omega) (by omega) HBI.out HLT.out.1 (by omega) #[.int .i64 f, .int .u32 m, .slice AI NI cI]
    exact ⟨_, rfl, hend.1.mono fun b _ hb => by have := HB3.out.size; omega, hend.2⟩
  · rw [if_pos (by kernel_rfl)]
    go_simp
    go_at_call 53; refine (HCL.out _ hk0).mono ?_; rintro e wq ⟨vc, rfl, hps, hb⟩
    obtain ⟨Ac, dc, rfl⟩ := hps.form
    have hkA := hk0.trans (hb.mono hk0.size)
    have hsA := hk0.size
    refine hK.out _ _ ?_ (fun hHeld => ?_)
    · exact HX6.out _ hkA
    clear hK K
    (try simp only [Act.put, List.setIfInBounds_toArray, List.set_cons_zero, List.set_cons_succ])
    refine wpAnyH_ready (rs := [1, 5]) (by kernel_rfl) (by simp) ?_
    refine AllReadyH.cons (o := ⟨some 19, _, _, _, _, _⟩) rfl (fun K hK => ?_) (AllReadyH.cons (o := ⟨some 23, _, _, _, _, _⟩) rfl (fun K hK => ?_) AllReadyH.nil)
    · obtain ⟨p0, p1, p2⟩ := HP6.out _ hkA
      rw [if_pos (by kernel_rfl)]
      go_simp
      refine hK.out _ _ ?_ (fun hHeld => ?_)
      · exact HX6.out _ hkA
      clear hK K p0 p1 p2
      (try simp only [Act.put, List.setIfInBounds_toArray, List.set_cons_zero, List.set_cons_succ])
      refine wpAnyH_ready (rs := [5]) (by kernel_rfl) (by simp) ?_
      refine AllReadyH.cons (o := ⟨some 23, _, _, _, _, _⟩) rfl (fun K hK => ?_) AllReadyH.nil
      obtain ⟨wN, N, hwN, hN, hNl, hbN, hNb⟩ := box_any wq #[.int .i64 x.u, .int .i64 x.s, .int .i64 x.c, .slice Ac x.ps.length dc] 41
      have hkN := hkA.trans (hbN.mono hkA.size)
      rw [if_pos (by kernel_rfl)]
      go_simp
      refine hK.out _ _ ?_ (fun hHeld => ?_)
      · exact HX6.out _ hkN
      clear hK K
      (try simp only [Act.put, List.setIfInBounds_toArray, List.set_cons_zero, List.set_cons_succ])
      refine wpAnyH_ready (rs := [6]) (by kernel_rfl) (by simp) ?_
      refine AllReadyH.cons (o := ⟨some 24, _, _, _, _, _⟩) rfl (fun K hK => ?_) AllReadyH.nil
      have hrN := HROW.out.keep hkN
      have hoN := hrN.own
      have hne : (Value.slice A1 n c1).ownBlock ≠ some N := fun e => by have := own_lt (HROW.out.keep hkA).own e; omega
      have hpN : PcsIn (fun b => w3.heap.size ≤ b ∧ (Value.slice A1 n c1).ownBlock ≠ some b) wN (rpV ((Ac, dc), x)) x.ps := (hps.keep hbN).mono fun b _ hF => ⟨by have := HS5.out; have := HS4.out; omega, fun e => by have := own_lt HROW.out.own e; omega⟩
      have hIN := insert_any w3.heap.size (.slice A1 n c1) ls kk ((Ac, dc), x) N wN hoN HKN.out HLL.out (by have := hkN.size; have := HS5.out; have := HS4.out; omega) hNb hne
      unfold RetMp at hIN
      rw [if_pos (by kernel_rfl)]
      go_simp
      go_at_call 56; refine hIN.mono ?_; rintro e wI ⟨vI, rfl, hownI, hapI, hgrI⟩
      have hall := all_ins (k := kk) hrN.pcs hpN
      have hallI : AllPcs (fun b => w3.heap.size ≤ b ∧ (Value.slice A1 n c1).ownBlock ≠ some b) wI (ls.take kk ++ [((Ac, dc), x)] ++ ls.drop kk) := hall.keepF hapI.size fun b hb hF => hapI.block b hb hF.2
      have hold : ∀ b, b < w3.heap.size → wI.heap[b]? = w5.heap[b]? := fun b hb => (hapI.block b (by have := hkN.size; have := HS5.out; have := HS4.out; omega) (fun e => by have := own_base5 HROW.out.own b e; omega)).trans (hkN.block b (by have := HS5.out; have := HS4.out; omega))
      have HPI := Lib.hid ((hold P (by omega)).trans HP5.out)
      have HXI := Lib.hid ((hold X (by omega)).trans HX5.out)
      have HRI := Lib.hid ((hold R (by omega)).trans HR5.out)
      have HBI : Hid (Below w.heap.size w wI) := Lib.hid ((HB5.out.trans (hkN.mono HB5.out.size)).trans (hapI.below (by have := HB5.out.size; have := hkN.size; omega) fun b hb e => by have := own_base5 HROW.out.own b e; omega))
      obtain ⟨AI, cI, hvI⟩ := own_form hownI
      obtain ⟨NI, hNI⟩ : ∃ NI, (ls.take kk ++ [(((Ac, dc), x) : Rp)] ++ ls.drop kk).length = NI := ⟨_, rfl⟩
      rw [hNI] at hvI
      subst hvI
      have HPN := Lib.hid (pls_of_own hownI (hallI.mono (G := fun b => w3.heap.size ≤ b) fun b _ hF => hF.1))
      rw [ins_pls, HLS.out] at HPN
      refine hK.out _ _ ?_ (fun hHeld => ?_)
      · exact four_heads HXI.out
      clear hK K
      (try simp only [Act.put, List.setIfInBounds_toArray, List.set_cons_zero, List.set_cons_succ])
      clear hIN hoN hrN hpN hall hallI hapI hgrI hownI hold hNb hbN hwN
      refine wpAnyH_take (i := 7) (oi := ⟨some 25, _, _, _, _, _⟩) (v := ?_) rfl (by kernel_rfl) (by kernel_rfl) (by kernel_rfl) (fun _ _ _ h => h) (Or.inl ⟨by kernel_rfl, ?_⟩) (by assumption) ?_
      rotate_left
      · (intro w hSw; (try dsimp only at hSw); go_simp; try with_reducible rfl)
      (try simp only [Act.put, List.setIfInBounds_toArray, List.set_cons_zero, List.set_cons_succ])
      obtain ⟨p0, p1, p2⟩ := three_heads HPI.out
      obtain ⟨fr⟩ : wI.frozen? ⟨P, 2, none⟩ = false ∧ True := ⟨by have e := HPI.out; simp [World.frozen?, e], trivial⟩
      have HX9 : Hid ((wI.setCell ⟨P, 2, none⟩ (.slice AI NI cI)).heap[X]? = some (.cells #[.int .i64 x.u, .int .i64 x.s, .int .i64 x.c, .slice B x.ps.length dd] 41 (0, 0))) := (Below.heap_setCell _ _ _ _ (show X ≠ P by omega)).trans HXI.out
      have HP9 : Hid ((wI.setCell ⟨P, 2, none⟩ (.slice AI NI cI)).heap[P]? = some (.cells #[.int .i64 f, .int .u32 m, .slice AI NI cI] 25 (0, 0))) := heap_setCell_mem _ _ _ _ _ _ _ HPI.out
      have HR9 : Hid ((wI.setCell ⟨P, 2, none⟩ (.slice AI NI cI)).heap[R]? = some (.cells #[.int .i64 0, .int .u32 0, .slice none 0 0] 25 (0, 0))) := (Below.heap_setCell _ _ _ _ (show R ≠ P by omega)).trans HRI.out
      refine wpAnyH_ready (rs := [8]) (by kernel_rfl) (by simp) ?_
      refine AllReadyH.cons (o := ⟨none, _, _, _, _, _⟩) rfl (fun K hK => ?_) AllReadyH.nil
      rw [if_pos (by kernel_rfl)]
      go_simp
      refine hK.out _ _ ?_ (fun hHeld => ?_)
      · exact four_heads HX9.out
      clear hK K p0 p1 p2
      (try simp only [Act.put, List.setIfInBounds_toArray, List.set_cons_zero, List.set_cons_succ])
      refine wpAnyH_done (by kernel_rfl) ?_ _
      obtain ⟨g0, g1, g2⟩ := three_heads HP9.out
      go_wp2_with (refine wpList_store_row rfl _ _ _ rfl R #[.int .i64 f, .int .u32 m, .slice AI NI cI] rfl rfl 25 _ HR9.out (Try.sizePn _ _ _) rfl (one3 _ _ _ _ _) ?_)
      refine bodyPost_ret (v := planA f m (.slice AI NI cI)) (results_cell_row rfl _ _ R _ _ _ _ rfl (setRow_heap _ _ _ _ _ _ HR9.out) Try.underlying25 rfl (Try.sizePn _ _ _)) rfl ?_
      have hend := pn_end (w := w) (W := wI) (P := P) (R := R) (l := putPl d x kk) (F := fun b => w3.heap.size ≤ b ∨ w3.heap.size ≤ b) HPN.out (by omega) (by omega) HBI.out HLT.out.1 (by omega) #[.int .i64 f, .int .u32 m, .slice AI NI cI]
      exact ⟨_, rfl, hend.1.mono fun b _ hb => by have := HB3.out.size; omega, hend.2⟩
    · obtain ⟨wN, N, hwN, hN, hNl, hbN, hNb⟩ := box_any wq #[.int .i64 x.u, .int .i64 x.s, .int .i64 x.c, .slice Ac x.ps.length dc] 41
      have hkN := hkA.trans (hbN.mono hkA.size)
      rw [if_pos (by kernel_rfl)]
      go_simp
      refine hK.out _ _ ?_ (fun hHeld => ?_)
      · exact HX6.out _ hkN
      clear hK K
      (try simp only [Act.put, List.setIfInBounds_toArray, List.set_cons_zero, List.set_cons_succ])
      refine wpAnyH_ready (rs := [1]) (by kernel_rfl) (by simp) ?_
      refine AllReadyH.cons (o := ⟨some 19, _, _, _, _, _⟩) rfl (fun K hK => ?_) AllReadyH.nil
      obtain ⟨p0, p1, p2⟩ := HP6.out _ hkN
      rw [if_pos (by kernel_rfl)]
      go_simp
      refine hK.out _ _ ?_ (fun hHeld => ?_)
      · exact HX6.out _ hkN
      clear hK K p0 p1 p2
      (try simp only [Act.put, List.setIfInBounds_toArray, List.set_cons_zero, List.set_cons_succ])
      refine wpAnyH_ready (rs := [6]) (by kernel_rfl) (by simp) ?_
      refine AllReadyH.cons (o := ⟨some 24, _, _, _, _, _⟩) rfl (fun K hK => ?_) AllReadyH.nil
      have hrN := HROW.out.keep hkN
      have hoN := hrN.own
      have hne : (Value.slice A1 n c1).ownBlock ≠ some N := fun e => by have := own_lt (HROW.out.keep hkA).own e; omega
      have hpN : PcsIn (fun b => w3.heap.size ≤ b ∧ (Value.slice A1 n c1).ownBlock ≠ some b) wN (rpV ((Ac, dc), x)) x.ps := (hps.keep hbN).mono fun b _ hF => ⟨by have := HS5.out; have := HS4.out; omega, fun e => by have := own_lt HROW.out.own e; omega⟩
      have hIN := insert_any w3.heap.size (.slice A1 n c1) ls kk ((Ac, dc), x) N wN hoN HKN.out HLL.out (by have := hkN.size; have := HS5.out; have := HS4.out; omega) hNb hne
      unfold RetMp at hIN
      rw [if_pos (by kernel_rfl)]
      go_simp
      go_at_call 56; refine hIN.mono ?_; rintro e wI ⟨vI, rfl, hownI, hapI, hgrI⟩
      have hall := all_ins (k := kk) hrN.pcs hpN
      have hallI : AllPcs (fun b => w3.heap.size ≤ b ∧ (Value.slice A1 n c1).ownBlock ≠ some b) wI (ls.take kk ++ [((Ac, dc), x)] ++ ls.drop kk) := hall.keepF hapI.size fun b hb hF => hapI.block b hb hF.2
      have hold : ∀ b, b < w3.heap.size → wI.heap[b]? = w5.heap[b]? := fun b hb => (hapI.block b (by have := hkN.size; have := HS5.out; have := HS4.out; omega) (fun e => by have := own_base5 HROW.out.own b e; omega)).trans (hkN.block b (by have := HS5.out; have := HS4.out; omega))
      have HPI := Lib.hid ((hold P (by omega)).trans HP5.out)
      have HXI := Lib.hid ((hold X (by omega)).trans HX5.out)
      have HRI := Lib.hid ((hold R (by omega)).trans HR5.out)
      have HBI : Hid (Below w.heap.size w wI) := Lib.hid ((HB5.out.trans (hkN.mono HB5.out.size)).trans (hapI.below (by have := HB5.out.size; have := hkN.size; omega) fun b hb e => by have := own_base5 HROW.out.own b e; omega))
      obtain ⟨AI, cI, hvI⟩ := own_form hownI
      obtain ⟨NI, hNI⟩ : ∃ NI, (ls.take kk ++ [(((Ac, dc), x) : Rp)] ++ ls.drop kk).length = NI := ⟨_, rfl⟩
      rw [hNI] at hvI
      subst hvI
      have HPN := Lib.hid (pls_of_own hownI (hallI.mono (G := fun b => w3.heap.size ≤ b) fun b _ hF => hF.1))
      rw [ins_pls, HLS.out] at HPN
      refine hK.out _ _ ?_ (fun hHeld => ?_)
      · exact four_heads HXI.out
      clear hK K
      (try simp only [Act.put, List.setIfInBounds_toArray, List.set_cons_zero, List.set_cons_succ])
      clear hIN hoN hrN hpN hall hallI hapI hgrI hownI hold hNb hbN hwN
      refine wpAnyH_take (i := 7) (oi := ⟨some 25, _, _, _, _, _⟩) (v := ?_) rfl (by kernel_rfl) (by kernel_rfl) (by kernel_rfl) (fun _ _ _ h => h) (Or.inl ⟨by kernel_rfl, ?_⟩) (by assumption) ?_
      rotate_left
      · (intro w hSw; (try dsimp only at hSw); go_simp; try with_reducible rfl)
      (try simp only [Act.put, List.setIfInBounds_toArray, List.set_cons_zero, List.set_cons_succ])
      obtain ⟨p0, p1, p2⟩ := three_heads HPI.out
      obtain ⟨fr⟩ : wI.frozen? ⟨P, 2, none⟩ = false ∧ True := ⟨by have e := HPI.out; simp [World.frozen?, e], trivial⟩
      have HX9 : Hid ((wI.setCell ⟨P, 2, none⟩ (.slice AI NI cI)).heap[X]? = some (.cells #[.int .i64 x.u, .int .i64 x.s, .int .i64 x.c, .slice B x.ps.length dd] 41 (0, 0))) := (Below.heap_setCell _ _ _ _ (show X ≠ P by omega)).trans HXI.out
      have HP9 : Hid ((wI.setCell ⟨P, 2, none⟩ (.slice AI NI cI)).heap[P]? = some (.cells #[.int .i64 f, .int .u32 m, .slice AI NI cI] 25 (0, 0))) := heap_setCell_mem _ _ _ _ _ _ _ HPI.out
      have HR9 : Hid ((wI.setCell ⟨P, 2, none⟩ (.slice AI NI cI)).heap[R]? = some (.cells #[.int .i64 0, .int .u32 0, .slice none 0 0] 25 (0, 0))) := (Below.heap_setCell _ _ _ _ (show R ≠ P by omega)).trans HRI.out
      refine wpAnyH_ready (rs := [8]) (by kernel_rfl) (by simp) ?_
      refine AllReadyH.cons (o := ⟨none, _, _, _, _, _⟩) rfl (fun K hK => ?_) AllReadyH.nil
      rw [if_pos (by kernel_rfl)]
      go_simp
      refine hK.out _ _ ?_ (fun hHeld => ?_)
      · exact four_heads HX9.out
      clear hK K p0 p1 p2
      (try simp only [Act.put, List.setIfInBounds_toArray, List.set_cons_zero, List.set_cons_succ])
      refine wpAnyH_done (by kernel_rfl) ?_ _
      obtain ⟨g0, g1, g2⟩ := three_heads HP9.out
      go_wp2_with (refine wpList_store_row rfl _ _ _ rfl R #[.int .i64 f, .int .u32 m, .slice AI NI cI] rfl rfl 25 _ HR9.out (Try.sizePn _ _ _) rfl (one3 _ _ _ _ _) ?_)
      refine bodyPost_ret (v := planA f m (.slice AI NI cI)) (results_cell_row rfl _ _ R _ _ _ _ rfl (setRow_heap _ _ _ _ _ _ HR9.out) Try.underlying25 rfl (Try.sizePn _ _ _)) rfl ?_
      have hend := pn_end (w := w) (W := wI) (P := P) (R := R) (l := putPl d x kk) (F := fun b => w3.heap.size ≤ b ∨ w3.heap.size ≤ b) HPN.out (by omega) (by omega) HBI.out HLT.out.1 (by omega) #[.int .i64 f, .int .u32 m, .slice AI NI cI]
      exact ⟨_, rfl, hend.1.mono fun b _ hb => by have := HB3.out.size; omega, hend.2⟩
end Go.Proofs.Ytajgebcaobknoaa
