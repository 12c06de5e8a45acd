/-
  slices.BinarySearchFunc over places, by their units.
  Conditions: the slice reads as places; where the place belongs is told.
-/
import Derived.Test.YtpfpojehcjmfnaaM07
import Derived.Test.YtpfpojehcjmfnaaM15

/-
  slices.BinarySearchFunc over places, by their units.
  Conditions: the slice reads as places; where the place belongs is told.
-/
set_option linter.unusedVariables false
namespace Go.Proofs.Ytpfpojehcjmfnaa
open Go.RowKit Go.Sort

set_option maxRecDepth 100000 in
set_option maxHeartbeats 8000000 in
theorem binary_any (v vx : Value) (l : List Pl) (tu ts tc : Int) (kk : Nat) (w : World) (h : PlsAt w v l) (hl : l.length ≤ 1000) (hk : PutAt l tu kk) :
    Calls Try.prog 30 #[v, .agg #[.int .i64 tu, .int .i64 ts, .int .i64 tc, vx], .func (.func 31) #[] #[]] w (fun e w' => ∃ q : Bool, e = .returned (.tuple #[.int .i64 kk, .bool q]) ∧ Below w.heap.size w w') := by
  have eg : ∀ args w, (callFunc 31 args).run Try.prog w = .ok (.enter 31 args) w := enters_of Try.func31 (by kernel_rfl) rfl
  have mixed : Try.prog.follows .mixedOrders = true := by kernel_rfl
  have HCU := Lib.hid (fun v' y W => compareUnits_any v' vx y ⟨tu, ts, tc, []⟩ W)
  unfold plA at HCU
  simp only at HCU
  obtain ⟨A, cA, rfl, hlc, hcm⟩ := h.form
  have HL := Lib.hid h
  have HK := Lib.hid hk
  obtain ⟨n, hn⟩ : ∃ n, l.length = n := ⟨_, rfl⟩
  rw [hn] at HL hlc hl ⊢
  have HN := Lib.hid hn
  have hkn : kk ≤ n := by have := hk.le; omega
  obtain ⟨w1, T, hw1, hT, hTl, hb1, hbox⟩ := box_any w #[.int .i64 tu, .int .i64 ts, .int .i64 tc, vx] 41
  have HB1 := Lib.hid hb1
  have HBOX := Lib.hid hbox
  clear h hn hk hb1 hbox
  go_enter Try.func30, Try.ntmps30
  go_wp2_with fail
  clear hw1 hT
  go_loopg [9, 10, 11] n (fun gg s9 s10 _ wr => ∃ i j : Nat, i ≤ kk ∧ kk ≤ j ∧ j ≤ n ∧ gg = j - i ∧ s9 = .int .i64 i ∧ s10 = .int .i64 j ∧ Below w1.heap.size w1 wr)
  case atStart => exact ⟨0, n, Nat.zero_le _, hkn, Nat.le_refl _, by omega, rfl, rfl, Below.refl _ _⟩
  case round =>
    obtain ⟨i, j, hi, hj, hjn, hg, rfl, rfl, hbw⟩ := hrel
    have HG := Lib.hid hg
    have HBW := Lib.hid hbw
    have HB := Lib.hid (HB1.out.trans (hbw.mono HB1.out.size))
    have HLR := Lib.hid (HL.out.keep HB.out)
    obtain ⟨t0, t1, t2, t3⟩ := four_heads (keep_block HBOX.out hbw)
    have lT : T < wr.heap.size := Nat.lt_of_lt_of_le hTl hbw.size
    clear hg hbw
    by_cases hij : i < j
    · have hijz : (i : Int) < (j : Int) := by omega
      obtain ⟨H, hH⟩ : ∃ H, (i + j) / 2 = H := ⟨_, rfl⟩
      have hH1 : i ≤ H := by omega
      have hH2 : H < j := by omega
      have hHn : (H : Int) < (n : Int) := by omega
      have hH0 : (0 : Int) ≤ (H : Int) := by omega
      obtain ⟨M, hM⟩ : ∃ M, i + j = M := ⟨_, rfl⟩
      have hsum : (i : Int) + (j : Int) = (M : Int) := by omega
      have hw1 : IntKind.i64.wrap (M : Int) = (M : Int) := IntWalk.i64_in _ (by omega)
      have hw2 : IntKind.u64.wrap (M : Int) = (M : Int) := by rw [IntKind.wrap_u64]; omega
      have hsh : (M : Int) >>> 1 = (H : Int) := by rw [Int.shiftRight_eq_div_pow]; omega
      have hsh2 : (M : Int) / 2 = (H : Int) := by omega
      rw [hM] at hH
      clear hM
      have hw3 : IntKind.i64.wrap (H : Int) = (H : Int) := IntWalk.i64_in _ (by omega)
      have hw4 : IntKind.u64.wrap (H : Int) = (H : Int) := by rw [IntKind.wrap_u64]; omega
      obtain ⟨y, hy⟩ := exP_at (xs := l) (k := H) (by rw [HN.out]; omega)
      obtain ⟨b, off, B, d, hA, hbl, _, ⟨c0, c1, c2, c3⟩, _⟩ := HLR.out.at_ hy
      subst hA
      simp only at c0 c1 c2 c3
      have HLS := Lib.hid (HK.out.less H y hy)
      obtain ⟨yu, ys, yc, yp⟩ := y
      simp only at c0 c1 c2 c3 HLS
      have HC := Lib.hid (fun W => HCU.out (.slice B yp.length d) ⟨yu, ys, yc, yp⟩ W)
      simp only at HC
      obtain ⟨np, hnp⟩ : ∃ np, yp.length = np := ⟨_, rfl⟩
      rw [hnp] at c3 HC
      have lb : b < wr.heap.size := hbl
      clear hnp hy hbl
      by_cases hlu : yu < tu
      · have hc : cmpI yu tu = -1 := cmp_neg hlu
        rw [hc] at HC
        have hHk := HLS.out.1 hlu
        clear hlu hc
        go_wp2_with fail
        refine wp_region_held_drew (S := fun w' => w'.cell? ⟨T, 0, none⟩ = some (.int .i64 tu) ∧ w'.cell? ⟨T, 1, none⟩ = some (.int .i64 ts) ∧ w'.cell? ⟨T, 2, none⟩ = some (.int .i64 tc) ∧ w'.cell? ⟨T, 3, none⟩ = some (vx) ∧ w'.cell? ⟨b, off + H * 4, none⟩ = some (.int .i64 yu) ∧ w'.cell? ⟨b, off + H * 4 + 1, none⟩ = some (.int .i64 ys) ∧ w'.cell? ⟨b, off + H * 4 + 2, none⟩ = some (.int .i64 yc) ∧ w'.cell? ⟨b, off + H * 4 + 3, none⟩ = some (.slice B np d)) (by kernel_rfl) ?_ (fun hHeld => ?_)
        · exact ⟨t0, t1, t2, t3, c0, c1, c2, c3⟩
        refine wpAnyH_take (i := 0) (oi := ⟨some 24, _, _, _, _, _⟩) (v := ?_) rfl (by kernel_rfl) (by kernel_rfl) (by kernel_rfl) (fun _ _ _ h => h) (Or.inl ⟨by kernel_rfl, ?_⟩) (by assumption) ?_
        rotate_left
        · (intro w hSw; (try dsimp only at hSw); go_simp; try with_reducible rfl)
        (try simp only [Act.put, List.setIfInBounds_toArray, List.set_cons_zero, List.set_cons_succ])
        refine wpAnyH_take (i := 1) (oi := ⟨some 25, _, _, _, _, _⟩) (v := ?_) rfl (by kernel_rfl) (by kernel_rfl) (by kernel_rfl) (fun _ _ _ h => h) (Or.inl ⟨by kernel_rfl, ?_⟩) (by assumption) ?_
        rotate_left
        · (intro w hSw; (try dsimp only at hSw); go_simp; try with_reducible rfl)
        (try simp only [Act.put, List.setIfInBounds_toArray, List.set_cons_zero, List.set_cons_succ])
        refine wpAnyH_take (i := 2) (oi := ⟨some 26, _, _, _, _, _⟩) (v := ?_) rfl (by kernel_rfl) (by kernel_rfl) (by kernel_rfl) (fun _ _ _ h => h) (Or.inl ⟨by kernel_rfl, ?_⟩) (by assumption) ?_
        rotate_left
        · (intro w hSw; (try dsimp only at hSw); go_simp; try with_reducible rfl)
        (try simp only [Act.put, List.setIfInBounds_toArray, List.set_cons_zero, List.set_cons_succ])
        refine wpAnyH_take (i := 3) (oi := ⟨some 27, _, _, _, _, _⟩) (v := ?_) rfl (by kernel_rfl) (by kernel_rfl) (by kernel_rfl) (fun _ _ _ h => h) (Or.inl ⟨by kernel_rfl, ?_⟩) (by assumption) ?_
        rotate_left
        · (intro w hSw; (try dsimp only at hSw); go_simp; try with_reducible rfl)
        (try simp only [Act.put, List.setIfInBounds_toArray, List.set_cons_zero, List.set_cons_succ])
        refine wpAnyH_take (i := 4) (oi := ⟨some 28, _, _, _, _, _⟩) (v := ?_) rfl (by kernel_rfl) (by kernel_rfl) (by kernel_rfl) (fun _ _ _ h => h) (Or.inl ⟨by kernel_rfl, ?_⟩) (by assumption) ?_
        rotate_left
        · (intro w hSw; (try dsimp only at hSw); go_simp; try with_reducible rfl)
        (try simp only [Act.put, List.setIfInBounds_toArray, List.set_cons_zero, List.set_cons_succ])
        refine wpAnyH_take (i := 5) (oi := ⟨some 29, _, _, _, _, _⟩) (v := ?_) rfl (by kernel_rfl) (by kernel_rfl) (by kernel_rfl) (fun _ _ _ h => h) (Or.inl ⟨by kernel_rfl, ?_⟩) (by assumption) ?_
        rotate_left
        · (intro w hSw; (try dsimp only at hSw); go_simp; try with_reducible rfl)
        (try simp only [Act.put, List.setIfInBounds_toArray, List.set_cons_zero, List.set_cons_succ])
        refine wpAnyH_ready (rs := [6]) (by kernel_rfl) (by simp) ?_
        refine AllReadyH.cons (o := ⟨some 30, _, _, _, _, _⟩) rfl (fun K hK => ?_) AllReadyH.nil
        rw [if_pos (by kernel_rfl)]
        go_simp
        go_at_fn 31; refine (HC.out _).mono ?_; rintro e wq ⟨rfl, hbr⟩
        refine hK.out _ _ ?_ (fun hHeld => ?_)
        · exact ⟨(hbr.cell (p := ⟨T, 0, none⟩) lT).trans t0, (hbr.cell (p := ⟨T, 1, none⟩) lT).trans t1, (hbr.cell (p := ⟨T, 2, none⟩) lT).trans t2, (hbr.cell (p := ⟨T, 3, none⟩) lT).trans t3, (hbr.cell (p := ⟨b, off + H * 4, none⟩) lb).trans c0, (hbr.cell (p := ⟨b, off + H * 4 + 1, none⟩) lb).trans c1, (hbr.cell (p := ⟨b, off + H * 4 + 2, none⟩) lb).trans c2, (hbr.cell (p := ⟨b, off + H * 4 + 3, none⟩) lb).trans c3⟩
        clear hK K
        (try simp only [Act.put, List.setIfInBounds_toArray, List.set_cons_zero, List.set_cons_succ])
        refine wpAnyH_take (i := 7) (oi := ⟨some 31, _, _, _, _, _⟩) (v := ?_) rfl (by kernel_rfl) (by kernel_rfl) (by kernel_rfl) (fun _ _ _ h => h) (Or.inl ⟨by kernel_rfl, ?_⟩) (by assumption) ?_
        rotate_left
        · (intro w hSw; (try dsimp only at hSw); go_simp; try with_reducible rfl)
        (try simp only [Act.put, List.setIfInBounds_toArray, List.set_cons_zero, List.set_cons_succ])
        refine wpAnyH_done (by kernel_rfl) ?_ _
        go_wp2_with fail
        go_roundg (j - (H + 1))
        case measure => have := HG.out; omega
        case rel => exact ⟨H + 1, j, by omega, by omega, hjn, rfl, by go_num, rfl, HBW.out.drew.trans (hbr.mono HBW.out.size)⟩
      · have hc := cmp_nonneg hlu
        obtain ⟨Z, hZ⟩ : ∃ Z, cmpI yu tu = Z := ⟨_, rfl⟩
        rw [hZ] at HC hc
        have hcd : decide (Z < 0) = false := decide_eq_false (by omega)
        have hHk : kk ≤ H := by
          exact Nat.le_of_not_lt fun e => hlu (HLS.out.2 e)
        clear hlu hZ hc
        go_wp2_with fail
        refine wp_region_held_drew (S := fun w' => w'.cell? ⟨T, 0, none⟩ = some (.int .i64 tu) ∧ w'.cell? ⟨T, 1, none⟩ = some (.int .i64 ts) ∧ w'.cell? ⟨T, 2, none⟩ = some (.int .i64 tc) ∧ w'.cell? ⟨T, 3, none⟩ = some (vx) ∧ w'.cell? ⟨b, off + H * 4, none⟩ = some (.int .i64 yu) ∧ w'.cell? ⟨b, off + H * 4 + 1, none⟩ = some (.int .i64 ys) ∧ w'.cell? ⟨b, off + H * 4 + 2, none⟩ = some (.int .i64 yc) ∧ w'.cell? ⟨b, off + H * 4 + 3, none⟩ = some (.slice B np d)) (by kernel_rfl) ?_ (fun hHeld => ?_)
        · exact ⟨t0, t1, t2, t3, c0, c1, c2, c3⟩
        refine wpAnyH_take (i := 0) (oi := ⟨some 24, _, _, _, _, _⟩) (v := ?_) rfl (by kernel_rfl) (by kernel_rfl) (by kernel_rfl) (fun _ _ _ h => h) (Or.inl ⟨by kernel_rfl, ?_⟩) (by assumption) ?_
        rotate_left
        · (intro w hSw; (try dsimp only at hSw); go_simp; try with_reducible rfl)
        (try simp only [Act.put, List.setIfInBounds_toArray, List.set_cons_zero, List.set_cons_succ])
        refine wpAnyH_take (i := 1) (oi := ⟨some 25, _, _, _, _, _⟩) (v := ?_) rfl (by kernel_rfl) (by kernel_rfl) (by kernel_rfl) (fun _ _ _ h => h) (Or.inl ⟨by kernel_rfl, ?_⟩) (by assumption) ?_
        rotate_left
        · (intro w hSw; (try dsimp only at hSw); go_simp; try with_reducible rfl)
        (try simp only [Act.put, List.setIfInBounds_toArray, List.set_cons_zero, List.set_cons_succ])
        refine wpAnyH_take (i := 2) (oi := ⟨some 26, _, _, _, _, _⟩) (v := ?_) rfl (by kernel_rfl) (by kernel_rfl) (by kernel_rfl) (fun _ _ _ h => h) (Or.inl ⟨by kernel_rfl, ?_⟩) (by assumption) ?_
        rotate_left
        · (intro w hSw; (try dsimp only at hSw); go_simp; try with_reducible rfl)
        (try simp only [Act.put, List.setIfInBounds_toArray, List.set_cons_zero, List.set_cons_succ])
        refine wpAnyH_take (i := 3) (oi := ⟨some 27, _, _, _, _, _⟩) (v := ?_) rfl (by kernel_rfl) (by kernel_rfl) (by kernel_rfl) (fun _ _ _ h => h) (Or.inl ⟨by kernel_rfl, ?_⟩) (by assumption) ?_
        rotate_left
        · (intro w hSw; (try dsimp only at hSw); go_simp; try with_reducible rfl)
        (try simp only [Act.put, List.setIfInBounds_toArray, List.set_cons_zero, List.set_cons_succ])
        refine wpAnyH_take (i := 4) (oi := ⟨some 28, _, _, _, _, _⟩) (v := ?_) rfl (by kernel_rfl) (by kernel_rfl) (by kernel_rfl) (fun _ _ _ h => h) (Or.inl ⟨by kernel_rfl, ?_⟩) (by assumption) ?_
        rotate_left
        · (intro w hSw; (try dsimp only at hSw); go_simp; try with_reducible rfl)
        (try simp only [Act.put, List.setIfInBounds_toArray, List.set_cons_zero, List.set_cons_succ])
        refine wpAnyH_take (i := 5) (oi := ⟨some 29, _, _, _, _, _⟩) (v := ?_) rfl (by kernel_rfl) (by kernel_rfl) (by kernel_rfl) (fun _ _ _ h => h) (Or.inl ⟨by kernel_rfl, ?_⟩) (by assumption) ?_
        rotate_left
        · (intro w hSw; (try dsimp only at hSw); go_simp; try with_reducible rfl)
        (try simp only [Act.put, List.setIfInBounds_toArray, List.set_cons_zero, List.set_cons_succ])
        refine wpAnyH_ready (rs := [6]) (by kernel_rfl) (by simp) ?_
        refine AllReadyH.cons (o := ⟨some 30, _, _, _, _, _⟩) rfl (fun K hK => ?_) AllReadyH.nil
        rw [if_pos (by kernel_rfl)]
        go_simp
        go_at_fn 31; refine (HC.out _).mono ?_; rintro e wq ⟨rfl, hbr⟩
        refine hK.out _ _ ?_ (fun hHeld => ?_)
        · exact ⟨(hbr.cell (p := ⟨T, 0, none⟩) lT).trans t0, (hbr.cell (p := ⟨T, 1, none⟩) lT).trans t1, (hbr.cell (p := ⟨T, 2, none⟩) lT).trans t2, (hbr.cell (p := ⟨T, 3, none⟩) lT).trans t3, (hbr.cell (p := ⟨b, off + H * 4, none⟩) lb).trans c0, (hbr.cell (p := ⟨b, off + H * 4 + 1, none⟩) lb).trans c1, (hbr.cell (p := ⟨b, off + H * 4 + 2, none⟩) lb).trans c2, (hbr.cell (p := ⟨b, off + H * 4 + 3, none⟩) lb).trans c3⟩
        clear hK K
        (try simp only [Act.put, List.setIfInBounds_toArray, List.set_cons_zero, List.set_cons_succ])
        refine wpAnyH_take (i := 7) (oi := ⟨some 31, _, _, _, _, _⟩) (v := ?_) rfl (by kernel_rfl) (by kernel_rfl) (by kernel_rfl) (fun _ _ _ h => h) (Or.inl ⟨by kernel_rfl, ?_⟩) (by assumption) ?_
        rotate_left
        · (intro w hSw; (try dsimp only at hSw); go_simp; try with_reducible rfl)
        (try simp only [Act.put, List.setIfInBounds_toArray, List.set_cons_zero, List.set_cons_succ])
        refine wpAnyH_done (by kernel_rfl) ?_ _
        go_wp2_with fail
        go_roundg (H - i)
        case measure => have := HG.out; omega
        case rel => exact ⟨i, H, hi, hHk, by omega, rfl, rfl, by go_num, HBW.out.drew.trans (hbr.mono HBW.out.size)⟩
    · have hijz : ¬ (i : Int) < (j : Int) := by omega
      obtain rfl : i = kk := by omega
      by_cases hin : i < n
      · have hinz : (i : Int) < (n : Int) := by omega
        have hi0 : (0 : Int) ≤ (i : Int) := by omega
        obtain ⟨y, hy⟩ := exP_at (xs := l) (k := i) (by rw [HN.out]; omega)
        obtain ⟨b, off, B, d, hA, hbl, _, ⟨c0, c1, c2, c3⟩, _⟩ := HLR.out.at_ hy
        subst hA
        simp only at c0 c1 c2 c3
        have HLS := Lib.hid (HK.out.less i y hy)
        obtain ⟨yu, ys, yc, yp⟩ := y
        simp only at c0 c1 c2 c3 HLS
        have HC := Lib.hid (fun W => HCU.out (.slice B yp.length d) ⟨yu, ys, yc, yp⟩ W)
        simp only at HC
        obtain ⟨np, hnp⟩ : ∃ np, yp.length = np := ⟨_, rfl⟩
        rw [hnp] at c3 HC
        have lb : b < wr.heap.size := hbl
        clear hnp hy hbl
        obtain ⟨Z, hZ⟩ : ∃ Z, cmpI yu tu = Z := ⟨_, rfl⟩
        rw [hZ] at HC
        clear hZ
        go_wp2_with fail
        refine wp_region_held_drew (S := fun w' => w'.cell? ⟨T, 0, none⟩ = some (.int .i64 tu) ∧ w'.cell? ⟨T, 1, none⟩ = some (.int .i64 ts) ∧ w'.cell? ⟨T, 2, none⟩ = some (.int .i64 tc) ∧ w'.cell? ⟨T, 3, none⟩ = some (vx) ∧ w'.cell? ⟨b, off + i * 4, none⟩ = some (.int .i64 yu) ∧ w'.cell? ⟨b, off + i * 4 + 1, none⟩ = some (.int .i64 ys) ∧ w'.cell? ⟨b, off + i * 4 + 2, none⟩ = some (.int .i64 yc) ∧ w'.cell? ⟨b, off + i * 4 + 3, none⟩ = some (.slice B np d)) (by kernel_rfl) ?_ (fun hHeld => ?_)
        · exact ⟨t0, t1, t2, t3, c0, c1, c2, c3⟩
        refine wpAnyH_take (i := 0) (oi := ⟨some 35, _, _, _, _, _⟩) (v := ?_) rfl (by kernel_rfl) (by kernel_rfl) (by kernel_rfl) (fun _ _ _ h => h) (Or.inl ⟨by kernel_rfl, ?_⟩) (by assumption) ?_
        rotate_left
        · (intro w hSw; (try dsimp only at hSw); go_simp; try with_reducible rfl)
        (try simp only [Act.put, List.setIfInBounds_toArray, List.set_cons_zero, List.set_cons_succ])
        refine wpAnyH_take (i := 1) (oi := ⟨some 36, _, _, _, _, _⟩) (v := ?_) rfl (by kernel_rfl) (by kernel_rfl) (by kernel_rfl) (fun _ _ _ h => h) (Or.inl ⟨by kernel_rfl, ?_⟩) (by assumption) ?_
        rotate_left
        · (intro w hSw; (try dsimp only at hSw); go_simp; try with_reducible rfl)
        (try simp only [Act.put, List.setIfInBounds_toArray, List.set_cons_zero, List.set_cons_succ])
        refine wpAnyH_take (i := 2) (oi := ⟨some 37, _, _, _, _, _⟩) (v := ?_) rfl (by kernel_rfl) (by kernel_rfl) (by kernel_rfl) (fun _ _ _ h => h) (Or.inl ⟨by kernel_rfl, ?_⟩) (by assumption) ?_
        rotate_left
        · (intro w hSw; (try dsimp only at hSw); go_simp; try with_reducible rfl)
        (try simp only [Act.put, List.setIfInBounds_toArray, List.set_cons_zero, List.set_cons_succ])
        refine wpAnyH_take (i := 3) (oi := ⟨some 38, _, _, _, _, _⟩) (v := ?_) rfl (by kernel_rfl) (by kernel_rfl) (by kernel_rfl) (fun _ _ _ h => h) (Or.inl ⟨by kernel_rfl, ?_⟩) (by assumption) ?_
        rotate_left
        · (intro w hSw; (try dsimp only at hSw); go_simp; try with_reducible rfl)
        (try simp only [Act.put, List.setIfInBounds_toArray, List.set_cons_zero, List.set_cons_succ])
        refine wpAnyH_take (i := 4) (oi := ⟨some 39, _, _, _, _, _⟩) (v := ?_) rfl (by kernel_rfl) (by kernel_rfl) (by kernel_rfl) (fun _ _ _ h => h) (Or.inl ⟨by kernel_rfl, ?_⟩) (by assumption) ?_
        rotate_left
        · (intro w hSw; (try dsimp only at hSw); go_simp; try with_reducible rfl)
        (try simp only [Act.put, List.setIfInBounds_toArray, List.set_cons_zero, List.set_cons_succ])
        refine wpAnyH_take (i := 5) (oi := ⟨some 40, _, _, _, _, _⟩) (v := ?_) rfl (by kernel_rfl) (by kernel_rfl) (by kernel_rfl) (fun _ _ _ h => h) (Or.inl ⟨by kernel_rfl, ?_⟩) (by assumption) ?_
        rotate_left
        · (intro w hSw; (try dsimp only at hSw); go_simp; try with_reducible rfl)
        (try simp only [Act.put, List.setIfInBounds_toArray, List.set_cons_zero, List.set_cons_succ])
        refine wpAnyH_take (i := 6) (oi := ⟨some 41, _, _, _, _, _⟩) (v := ?_) rfl (by kernel_rfl) (by kernel_rfl) (by kernel_rfl) (fun _ _ _ h => h) (Or.inl ⟨by kernel_rfl, ?_⟩) (by assumption) ?_
        rotate_left
        · (intro w hSw; (try dsimp only at hSw); go_simp; try with_reducible rfl)
        (try simp only [Act.put, List.setIfInBounds_toArray, List.set_cons_zero, List.set_cons_succ])
        refine wpAnyH_take (i := 7) (oi := ⟨some 42, _, _, _, _, _⟩) (v := ?_) rfl (by kernel_rfl) (by kernel_rfl) (by kernel_rfl) (fun _ _ _ h => h) (Or.inl ⟨by kernel_rfl, ?_⟩) (by assumption) ?_
        rotate_left
        · (intro w hSw; (try dsimp only at hSw); go_simp; try with_reducible rfl)
        (try simp only [Act.put, List.setIfInBounds_toArray, List.set_cons_zero, List.set_cons_succ])
        refine wpAnyH_take (i := 8) (oi := ⟨some 43, _, _, _, _, _⟩) (v := ?_) rfl (by kernel_rfl) (by kernel_rfl) (by kernel_rfl) (fun _ _ _ h => h) (Or.inl ⟨by kernel_rfl, ?_⟩) (by assumption) ?_
        rotate_left
        · (intro w hSw; (try dsimp only at hSw); go_simp; try with_reducible rfl)
        (try simp only [Act.put, List.setIfInBounds_toArray, List.set_cons_zero, List.set_cons_succ])
        refine wpAnyH_take (i := 9) (oi := ⟨some 44, _, _, _, _, _⟩) (v := ?_) rfl (by kernel_rfl) (by kernel_rfl) (by kernel_rfl) (fun _ _ _ h => h) (Or.inl ⟨by kernel_rfl, ?_⟩) (by assumption) ?_
        rotate_left
        · (intro w hSw; (try dsimp only at hSw); go_simp; try with_reducible rfl)
        (try simp only [Act.put, List.setIfInBounds_toArray, List.set_cons_zero, List.set_cons_succ])
        refine wpAnyH_take (i := 10) (oi := ⟨some 45, _, _, _, _, _⟩) (v := ?_) rfl (by kernel_rfl) (by kernel_rfl) (by kernel_rfl) (fun _ _ _ h => h) (Or.inl ⟨by kernel_rfl, ?_⟩) (by assumption) ?_
        rotate_left
        · (intro w hSw; (try dsimp only at hSw); go_simp; try with_reducible rfl)
        (try simp only [Act.put, List.setIfInBounds_toArray, List.set_cons_zero, List.set_cons_succ])
        refine wpAnyH_ready (rs := [11]) (by kernel_rfl) (by simp) ?_
        refine AllReadyH.cons (o := ⟨some 46, _, _, _, _, _⟩) rfl (fun K hK => ?_) AllReadyH.nil
        rw [if_pos (by kernel_rfl)]
        go_simp
        go_at_fn 31; refine (HC.out _).mono ?_; rintro e wq ⟨rfl, hbr⟩
        refine hK.out _ _ ?_ (fun hHeld => ?_)
        · exact ⟨(hbr.cell (p := ⟨T, 0, none⟩) lT).trans t0, (hbr.cell (p := ⟨T, 1, none⟩) lT).trans t1, (hbr.cell (p := ⟨T, 2, none⟩) lT).trans t2, (hbr.cell (p := ⟨T, 3, none⟩) lT).trans t3, (hbr.cell (p := ⟨b, off + i * 4, none⟩) lb).trans c0, (hbr.cell (p := ⟨b, off + i * 4 + 1, none⟩) lb).trans c1, (hbr.cell (p := ⟨b, off + i * 4 + 2, none⟩) lb).trans c2, (hbr.cell (p := ⟨b, off + i * 4 + 3, none⟩) lb).trans c3⟩
        clear hK K
        (try simp only [Act.put, List.setIfInBounds_toArray, List.set_cons_zero, List.set_cons_succ])
        refine wpAnyH_take (i := 12) (oi := ⟨some 47, _, _, _, _, _⟩) (v := ?_) rfl (by kernel_rfl) (by kernel_rfl) (by kernel_rfl) (fun _ _ _ h => h) (Or.inl ⟨by kernel_rfl, ?_⟩) (by assumption) ?_
        rotate_left
        · (intro w hSw; (try dsimp only at hSw); go_simp; try with_reducible rfl)
        (try simp only [Act.put, List.setIfInBounds_toArray, List.set_cons_zero, List.set_cons_succ])
        refine wpAnyH_take (i := 13) (oi := ⟨some 48, _, _, _, _, _⟩) (v := ?_) rfl (by kernel_rfl) (by kernel_rfl) (by kernel_rfl) (fun _ _ _ h => h) (Or.inl ⟨by kernel_rfl, ?_⟩) (by assumption) ?_
        rotate_left
        · (intro w hSw; (try dsimp only at hSw); go_simp; try with_reducible rfl)
        (try simp only [Act.put, List.setIfInBounds_toArray, List.set_cons_zero, List.set_cons_succ])
        refine wpAnyH_take (i := 14) (oi := ⟨some 6, _, _, _, _, _⟩) (v := ?_) rfl (by kernel_rfl) (by kernel_rfl) (by kernel_rfl) (fun _ _ _ h => h) (Or.inl ⟨by kernel_rfl, ?_⟩) (by assumption) ?_
        rotate_left
        · (intro w hSw; (try dsimp only at hSw); go_simp; try with_reducible rfl)
        (try simp only [Act.put, List.setIfInBounds_toArray, List.set_cons_zero, List.set_cons_succ])
        refine wpAnyH_take (i := 15) (oi := ⟨some 7, _, _, _, _, _⟩) (v := ?_) rfl (by kernel_rfl) (by kernel_rfl) (by kernel_rfl) (fun _ _ _ h => h) (Or.inl ⟨by kernel_rfl, ?_⟩) (by assumption) ?_
        rotate_left
        · (intro w hSw; (try dsimp only at hSw); go_simp; try with_reducible rfl)
        (try simp only [Act.put, List.setIfInBounds_toArray, List.set_cons_zero, List.set_cons_succ])
        refine wpAnyH_done (by kernel_rfl) ?_ _
        go_wp2_with fail
        go_ret2
        exact ⟨_, rfl, HB.out.drew.trans (hbr.mono HB.out.size)⟩
      · have hinz : ¬ (i : Int) < (n : Int) := by omega
        go_wp2_with fail
        refine wp_region_held_drew (S := fun w' => w'.cell? ⟨T, 0, none⟩ = some (.int .i64 tu) ∧ w'.cell? ⟨T, 1, none⟩ = some (.int .i64 ts) ∧ w'.cell? ⟨T, 2, none⟩ = some (.int .i64 tc) ∧ w'.cell? ⟨T, 3, none⟩ = some (vx)) (by kernel_rfl) ?_ (fun hHeld => ?_)
        · exact ⟨t0, t1, t2, t3⟩
        refine wpAnyH_take (i := 0) (oi := ⟨some 35, _, _, _, _, _⟩) (v := ?_) rfl (by kernel_rfl) (by kernel_rfl) (by kernel_rfl) (fun _ _ _ h => h) (Or.inl ⟨by kernel_rfl, ?_⟩) (by assumption) ?_
        rotate_left
        · (intro w hSw; (try dsimp only at hSw); go_simp; try with_reducible rfl)
        (try simp only [Act.put, List.setIfInBounds_toArray, List.set_cons_zero, List.set_cons_succ])
        refine wpAnyH_take (i := 1) (oi := ⟨some 36, _, _, _, _, _⟩) (v := ?_) rfl (by kernel_rfl) (by kernel_rfl) (by kernel_rfl) (fun _ _ _ h => h) (Or.inl ⟨by kernel_rfl, ?_⟩) (by assumption) ?_
        rotate_left
        · (intro w hSw; (try dsimp only at hSw); go_simp; try with_reducible rfl)
        (try simp only [Act.put, List.setIfInBounds_toArray, List.set_cons_zero, List.set_cons_succ])
        refine wpAnyH_take (i := 2) (oi := ⟨some 37, _, _, _, _, _⟩) (v := ?_) rfl (by kernel_rfl) (by kernel_rfl) (by kernel_rfl) (fun _ _ _ h => h) (Or.inl ⟨by kernel_rfl, ?_⟩) (by assumption) ?_
        rotate_left
        · (intro w hSw; (try dsimp only at hSw); go_simp; try with_reducible rfl)
        (try simp only [Act.put, List.setIfInBounds_toArray, List.set_cons_zero, List.set_cons_succ])
        refine wpAnyH_take (i := 3) (oi := ⟨some 38, _, _, _, _, _⟩) (v := ?_) rfl (by kernel_rfl) (by kernel_rfl) (by kernel_rfl) (fun _ _ _ h => h) (Or.inl ⟨by kernel_rfl, ?_⟩) (by assumption) ?_
        rotate_left
        · (intro w hSw; (try dsimp only at hSw); go_simp; try with_reducible rfl)
        (try simp only [Act.put, List.setIfInBounds_toArray, List.set_cons_zero, List.set_cons_succ])
        refine wpAnyH_take (i := 4) (oi := ⟨some 39, _, _, _, _, _⟩) (v := ?_) rfl (by kernel_rfl) (by kernel_rfl) (by kernel_rfl) (fun _ _ _ h => h) (Or.inl ⟨by kernel_rfl, ?_⟩) (by assumption) ?_
        rotate_left
        · (intro w hSw; (try dsimp only at hSw); go_simp; try with_reducible rfl)
        (try simp only [Act.put, List.setIfInBounds_toArray, List.set_cons_zero, List.set_cons_succ])
        refine wpAnyH_take (i := 5) (oi := ⟨some 40, _, _, _, _, _⟩) (v := undef) rfl (by kernel_rfl) (by kernel_rfl) (by kernel_rfl) (fun _ _ _ h => h) (Or.inr ⟨by kernel_rfl, rfl⟩) (by assumption) ?_
        (try simp only [Act.put, List.setIfInBounds_toArray, List.set_cons_zero, List.set_cons_succ])
        refine wpAnyH_take (i := 6) (oi := ⟨some 41, _, _, _, _, _⟩) (v := undef) rfl (by kernel_rfl) (by kernel_rfl) (by kernel_rfl) (fun _ _ _ h => h) (Or.inr ⟨by kernel_rfl, rfl⟩) (by assumption) ?_
        (try simp only [Act.put, List.setIfInBounds_toArray, List.set_cons_zero, List.set_cons_succ])
        refine wpAnyH_take (i := 7) (oi := ⟨some 42, _, _, _, _, _⟩) (v := undef) rfl (by kernel_rfl) (by kernel_rfl) (by kernel_rfl) (fun _ _ _ h => h) (Or.inr ⟨by kernel_rfl, rfl⟩) (by assumption) ?_
        (try simp only [Act.put, List.setIfInBounds_toArray, List.set_cons_zero, List.set_cons_succ])
        refine wpAnyH_take (i := 8) (oi := ⟨some 43, _, _, _, _, _⟩) (v := undef) rfl (by kernel_rfl) (by kernel_rfl) (by kernel_rfl) (fun _ _ _ h => h) (Or.inr ⟨by kernel_rfl, rfl⟩) (by assumption) ?_
        (try simp only [Act.put, List.setIfInBounds_toArray, List.set_cons_zero, List.set_cons_succ])
        refine wpAnyH_take (i := 9) (oi := ⟨some 44, _, _, _, _, _⟩) (v := undef) rfl (by kernel_rfl) (by kernel_rfl) (by kernel_rfl) (fun _ _ _ h => h) (Or.inr ⟨by kernel_rfl, rfl⟩) (by assumption) ?_
        (try simp only [Act.put, List.setIfInBounds_toArray, List.set_cons_zero, List.set_cons_succ])
        refine wpAnyH_take (i := 10) (oi := ⟨some 45, _, _, _, _, _⟩) (v := undef) rfl (by kernel_rfl) (by kernel_rfl) (by kernel_rfl) (fun _ _ _ h => h) (Or.inr ⟨by kernel_rfl, rfl⟩) (by assumption) ?_
        (try simp only [Act.put, List.setIfInBounds_toArray, List.set_cons_zero, List.set_cons_succ])
        refine wpAnyH_take (i := 11) (oi := ⟨some 46, _, _, _, _, _⟩) (v := undef) rfl (by kernel_rfl) (by kernel_rfl) (by kernel_rfl) (fun _ _ _ h => h) (Or.inr ⟨by kernel_rfl, rfl⟩) (by assumption) ?_
        (try simp only [Act.put, List.setIfInBounds_toArray, List.set_cons_zero, List.set_cons_succ])
        refine wpAnyH_take (i := 12) (oi := ⟨some 47, _, _, _, _, _⟩) (v := undef) rfl (by kernel_rfl) (by kernel_rfl) (by kernel_rfl) (fun _ _ _ h => h) (Or.inr ⟨by kernel_rfl, rfl⟩) (by assumption) ?_
        (try simp only [Act.put, List.setIfInBounds_toArray, List.set_cons_zero, List.set_cons_succ])
        refine wpAnyH_take (i := 13) (oi := ⟨some 48, _, _, _, _, _⟩) (v := ?_) rfl (by kernel_rfl) (by kernel_rfl) (by kernel_rfl) (fun _ _ _ h => h) (Or.inl ⟨by kernel_rfl, ?_⟩) (by assumption) ?_
        rotate_left
        · (intro w hSw; (try dsimp only at hSw); go_simp; try with_reducible rfl)
        (try simp only [Act.put, List.setIfInBounds_toArray, List.set_cons_zero, List.set_cons_succ])
        refine wpAnyH_take (i := 14) (oi := ⟨some 6, _, _, _, _, _⟩) (v := ?_) rfl (by kernel_rfl) (by kernel_rfl) (by kernel_rfl) (fun _ _ _ h => h) (Or.inl ⟨by kernel_rfl, ?_⟩) (by assumption) ?_
        rotate_left
        · (intro w hSw; (try dsimp only at hSw); go_simp; try with_reducible rfl)
        (try simp only [Act.put, List.setIfInBounds_toArray, List.set_cons_zero, List.set_cons_succ])
        refine wpAnyH_take (i := 15) (oi := ⟨some 7, _, _, _, _, _⟩) (v := ?_) rfl (by kernel_rfl) (by kernel_rfl) (by kernel_rfl) (fun _ _ _ h => h) (Or.inl ⟨by kernel_rfl, ?_⟩) (by assumption) ?_
        rotate_left
        · (intro w hSw; (try dsimp only at hSw); go_simp; try with_reducible rfl)
        (try simp only [Act.put, List.setIfInBounds_toArray, List.set_cons_zero, List.set_cons_succ])
        refine wpAnyH_done (by kernel_rfl) ?_ _
        go_wp2_with fail
        go_ret2
        exact ⟨_, rfl, HB.out.drew⟩
end Go.Proofs.Ytpfpojehcjmfnaa
