/-
  A plan's own block is none of its places'.
  Conditions: none.
-/
import Derived.Test.YtincbilobmhgeaaM02
import Derived.Shelf.RegionOpenPlain

/-
  Plans held against each other.
  Conditions: the slices read as places.
-/
set_option linter.unusedVariables false
set_option linter.unusedSimpArgs false
namespace Go.Proofs.Ytincbilobmhgeaa
open Go.RowKit

/-- Are two plans alike? -/
def sameB (f : Int) (m : Nat) (l : List Pl) (f' : Int) (m' : Nat) (l' : List Pl) : Bool := decide (f = f' ∧ m = m' ∧ l = l')
theorem sameB_no {f : Int} {m : Nat} {l : List Pl} {f' : Int} {m' : Nat} {l' : List Pl} (h : f ≠ f' ∨ m ≠ m' ∨ l ≠ l') : sameB f m l f' m' l' = false := decide_eq_false fun e => by
  rcases h with h | h | h
  · exact h e.1
  · exact h e.2.1
  · exact h e.2.2
theorem sameB_of {f : Int} {m : Nat} {l : List Pl} {f' : Int} {m' : Nat} {l' : List Pl} (h1 : f = f') (h2 : m = m') : sameB f m l f' m' l' = decide (l = l') := by
  by_cases h : l = l'
  · rw [decide_eq_true h]; exact decide_eq_true ⟨h1, h2, h⟩
  · rw [decide_eq_false h, sameB_no (.inr (.inr h))]

set_option maxRecDepth 100000 in
set_option maxHeartbeats 4000000 in
theorem refSame_any (f : Int) (m1 : Nat) (u : Value) (l : List Pl) (f' : Int) (m2 : Nat) (v : Value) (k2 : List Pl) (w : World) (hs : PlsAt w u l) (ht : PlsAt w v k2) :
    Calls Try.prog 21 #[planA f m1 u, planA f' m2 v] w (RetB (.bool (sameB f m1 l f' m2 k2)) w) := by
  have HA0 := Lib.hid hs
  have HB0 := Lib.hid ht
  obtain ⟨A, c, rfl, hc1, hc2⟩ := hs.form
  obtain ⟨B, d, rfl, hd1, hd2⟩ := ht.form
  have HNO := Lib.hid (@sameB_no f m1 l f' m2 k2)
  have HSA := Lib.hid (@sameB_of f m1 l f' m2 k2)
  obtain ⟨R, hR⟩ : ∃ R, sameB f m1 l f' m2 k2 = R := ⟨_, rfl⟩
  rw [hR] at HNO HSA ⊢
  obtain ⟨n, hn⟩ : ∃ n, l.length = n := ⟨_, rfl⟩
  obtain ⟨m, hm⟩ : ∃ m, k2.length = m := ⟨_, rfl⟩
  rw [hn] at HA0 hc1 ⊢
  rw [hm] at HB0 hd1 ⊢
  have HN := Lib.hid hn
  have HM := Lib.hid hm
  have hbn : n ≤ 9223372036854775807 := by omega
  obtain ⟨w1, P, hw1, hP, hPl, hb1, hbox⟩ := box_any w #[.int .i64 f, .int .u32 m1, .slice A n c] 25
  obtain ⟨w2, X, hw2, hX, hXl, hb2, hxbox⟩ := box_any w1 #[.int .i64 f', .int .u32 m2, .slice B m d] 25
  have HB2 := Lib.hid (hb1.trans (hb2.mono hb1.size))
  have HPB := Lib.hid (keep_block hbox hb2)
  have HXB := Lib.hid hxbox
  obtain ⟨p0, p1, p2⟩ := three_heads HPB.out
  obtain ⟨q0, q1, q2⟩ := three_heads hxbox
  have HA := Lib.hid (HA0.out.keep HB2.out)
  have HB := Lib.hid (HB0.out.keep HB2.out)
  have mixed : Try.prog.follows .mixedOrders = true := by kernel_rfl
  unfold planA
  clear hs ht hn hm hR hb1 hb2 hbox hxbox
  by_cases h1 : f = f'
  · have e1 : (f == f') = true := by simpa using h1
    have e1' : (f != f') = false := by simpa using h1
    by_cases h2 : m1 = m2
    · have e2 : ((m1 : Int) == (m2 : Int)) = true := by subst h2; simp
      have e2' : ((m1 : Int) != (m2 : Int)) = false := by subst h2; simp
      have HR := Lib.hid (HSA.out h1 h2)
      clear h1 h2
      by_cases hne : n = m
      · subst hne
        have hn2 : ((n : Int) != (n : Int)) = false := by simp
        go_enter Try.func21, Try.ntmps21
        go_wp2_with fail
        clear hw1 hP hw2 hX p0 p1 p2 q0 q1 q2
        go_loopg [5] n (fun g i wr => ∃ k : Nat, k ≤ n ∧ g = n - k ∧ i = .int .i64 k ∧ Hid (l.take k = k2.take k) ∧ Below w2.heap.size w2 wr)
        case atStart => exact ⟨0, Nat.zero_le _, by omega, rfl, rfl, Below.refl _ _⟩
        case round =>
          obtain ⟨k, hk, hg, rfl, HT, hbw⟩ := hrel
          have HG := Lib.hid hg
          have HBW := Lib.hid hbw
          have HBE := Lib.hid (HB2.out.trans (hbw.mono HB2.out.size))
          have HPW := Lib.hid (keep_block HPB.out hbw)
          have HXW := Lib.hid (keep_block HXB.out hbw)
          obtain ⟨p0, p1, p2⟩ := three_heads HPW.out
          obtain ⟨q0, q1, q2⟩ := three_heads HXW.out
          have lP := heap_lt HPW.out
          have lX := heap_lt HXW.out
          clear hg hbw
          by_cases hlt : k < n
          · have hltz : (k : Int) < (n : Int) := by omega
            have hk0 : (0 : Int) ≤ (k : Int) := by omega
            obtain ⟨x, hx⟩ := exP_at (xs := l) (k := k) (by rw [HN.out]; exact hlt)
            obtain ⟨y, hy⟩ := exP_at (xs := k2) (k := k) (by rw [HM.out]; exact hlt)
            obtain ⟨b, off, B1, d1, hAe, hbl, _, ⟨x0, x1, x2, x3⟩, hp1⟩ := (HA.out.keep HBW.out).at_ hx
            obtain ⟨b', off', B2, d2, hBe, hbl', _, ⟨y0, y1, y2, y3⟩, hp2⟩ := (HB.out.keep HBW.out).at_ hy
            subst hAe hBe
            simp only at x0 x1 x2 x3 y0 y1 y2 y3
            have HTN := Lib.hid (fun e => takeP_same HT hx hy e)
            have HDF := Lib.hid (fun e => differP hx hy e)
            have HP1 := Lib.hid hp1
            have HP2 := Lib.hid hp2
            clear hx hy hp1 hp2
            have lb := hbl
            have lb' := hbl'
            obtain ⟨xu, xs, xc, xp⟩ := x
            obtain ⟨yu, ys, yc, yp⟩ := y
            simp only at x0 x1 x2 x3 y0 y1 y2 y3 HP1 HP2
            have HCC := Lib.hid (fun W h h' => refSamePlace_any (.slice B1 xp.length d1) (.slice B2 yp.length d2) ⟨xu, xs, xc, xp⟩ ⟨yu, ys, yc, yp⟩ W h h')
            unfold plA at HCC
            simp only at HCC
            obtain ⟨n1, hn1⟩ : ∃ n1, xp.length = n1 := ⟨_, rfl⟩
            obtain ⟨n2, hn2⟩ : ∃ n2, yp.length = n2 := ⟨_, rfl⟩
            rw [hn1] at x3 HP1 HCC
            rw [hn2] at y3 HP2 HCC
            clear hn1 hn2
            by_cases hxy : (⟨xu, xs, xc, xp⟩ : Pl) = ⟨yu, ys, yc, yp⟩
            · rw [decide_eq_true hxy] at HCC
              have HNX := Lib.hid (HTN.out hxy)
              clear hxy
              go_wp2_with fail
              refine wp_region_held_drew (S := fun w' => w'.cell? ⟨P, 2, none⟩ = some (.slice (some ⟨b, off, none⟩) n c) ∧ w'.cell? ⟨X, 2, none⟩ = some ((.slice (some ⟨b', off', none⟩) n d)) ∧ w'.cell? ⟨b, off + k * 4, none⟩ = some (.int .i64 xu) ∧ w'.cell? ⟨b, off + k * 4 + 1, none⟩ = some (.int .i64 xs) ∧ w'.cell? ⟨b, off + k * 4 + 2, none⟩ = some (.int .i64 xc) ∧ w'.cell? ⟨b, off + k * 4 + 3, none⟩ = some (.slice B1 n1 d1) ∧ w'.cell? ⟨b', off' + k * 4, none⟩ = some (.int .i64 yu) ∧ w'.cell? ⟨b', off' + k * 4 + 1, none⟩ = some (.int .i64 ys) ∧ w'.cell? ⟨b', off' + k * 4 + 2, none⟩ = some (.int .i64 yc) ∧ w'.cell? ⟨b', off' + k * 4 + 3, none⟩ = some (.slice B2 n2 d2)) (by kernel_rfl) ?_ (fun hHeld => ?_)
              · exact ⟨p2, q2, x0, x1, x2, x3, y0, y1, y2, y3⟩
              refine wpAnyH_take (i := 0) (oi := ⟨some 34, _, _, _, _, _⟩) (v := ?_) rfl (by kernel_rfl) (by kernel_rfl) (by kernel_rfl) (fun _ _ _ h => h) (Or.inl ⟨by kernel_rfl, ?_⟩) (by assumption) ?_
              rotate_left
              · (intro w hSw; (try dsimp only at hSw); go_simp; try with_reducible rfl)
              (try simp only [Act.put, List.setIfInBounds_toArray, List.set_cons_zero, List.set_cons_succ])
              refine wpAnyH_take (i := 1) (oi := ⟨some 35, _, _, _, _, _⟩) (v := ?_) rfl (by kernel_rfl) (by kernel_rfl) (by kernel_rfl) (fun _ _ _ h => h) (Or.inl ⟨by kernel_rfl, ?_⟩) (by assumption) ?_
              rotate_left
              · (intro w hSw; (try dsimp only at hSw); go_simp; try with_reducible rfl)
              (try simp only [Act.put, List.setIfInBounds_toArray, List.set_cons_zero, List.set_cons_succ])
              refine wpAnyH_take (i := 2) (oi := ⟨some 36, _, _, _, _, _⟩) (v := ?_) rfl (by kernel_rfl) (by kernel_rfl) (by kernel_rfl) (fun _ _ _ h => h) (Or.inl ⟨by kernel_rfl, ?_⟩) (by assumption) ?_
              rotate_left
              · (intro w hSw; (try dsimp only at hSw); go_simp; try with_reducible rfl)
              (try simp only [Act.put, List.setIfInBounds_toArray, List.set_cons_zero, List.set_cons_succ])
              refine wpAnyH_take (i := 3) (oi := ⟨some 37, _, _, _, _, _⟩) (v := ?_) rfl (by kernel_rfl) (by kernel_rfl) (by kernel_rfl) (fun _ _ _ h => h) (Or.inl ⟨by kernel_rfl, ?_⟩) (by assumption) ?_
              rotate_left
              · (intro w hSw; (try dsimp only at hSw); go_simp; try with_reducible rfl)
              (try simp only [Act.put, List.setIfInBounds_toArray, List.set_cons_zero, List.set_cons_succ])
              refine wpAnyH_take (i := 4) (oi := ⟨some 38, _, _, _, _, _⟩) (v := ?_) rfl (by kernel_rfl) (by kernel_rfl) (by kernel_rfl) (fun _ _ _ h => h) (Or.inl ⟨by kernel_rfl, ?_⟩) (by assumption) ?_
              rotate_left
              · (intro w hSw; (try dsimp only at hSw); go_simp; try with_reducible rfl)
              (try simp only [Act.put, List.setIfInBounds_toArray, List.set_cons_zero, List.set_cons_succ])
              refine wpAnyH_take (i := 5) (oi := ⟨some 39, _, _, _, _, _⟩) (v := ?_) rfl (by kernel_rfl) (by kernel_rfl) (by kernel_rfl) (fun _ _ _ h => h) (Or.inl ⟨by kernel_rfl, ?_⟩) (by assumption) ?_
              rotate_left
              · (intro w hSw; (try dsimp only at hSw); go_simp; try with_reducible rfl)
              (try simp only [Act.put, List.setIfInBounds_toArray, List.set_cons_zero, List.set_cons_succ])
              refine wpAnyH_take (i := 6) (oi := ⟨some 40, _, _, _, _, _⟩) (v := ?_) rfl (by kernel_rfl) (by kernel_rfl) (by kernel_rfl) (fun _ _ _ h => h) (Or.inl ⟨by kernel_rfl, ?_⟩) (by assumption) ?_
              rotate_left
              · (intro w hSw; (try dsimp only at hSw); go_simp; try with_reducible rfl)
              (try simp only [Act.put, List.setIfInBounds_toArray, List.set_cons_zero, List.set_cons_succ])
              refine wpAnyH_take (i := 7) (oi := ⟨some 41, _, _, _, _, _⟩) (v := ?_) rfl (by kernel_rfl) (by kernel_rfl) (by kernel_rfl) (fun _ _ _ h => h) (Or.inl ⟨by kernel_rfl, ?_⟩) (by assumption) ?_
              rotate_left
              · (intro w hSw; (try dsimp only at hSw); go_simp; try with_reducible rfl)
              (try simp only [Act.put, List.setIfInBounds_toArray, List.set_cons_zero, List.set_cons_succ])
              refine wpAnyH_take (i := 8) (oi := ⟨some 42, _, _, _, _, _⟩) (v := ?_) rfl (by kernel_rfl) (by kernel_rfl) (by kernel_rfl) (fun _ _ _ h => h) (Or.inl ⟨by kernel_rfl, ?_⟩) (by assumption) ?_
              rotate_left
              · (intro w hSw; (try dsimp only at hSw); go_simp; try with_reducible rfl)
              (try simp only [Act.put, List.setIfInBounds_toArray, List.set_cons_zero, List.set_cons_succ])
              refine wpAnyH_take (i := 9) (oi := ⟨some 43, _, _, _, _, _⟩) (v := ?_) rfl (by kernel_rfl) (by kernel_rfl) (by kernel_rfl) (fun _ _ _ h => h) (Or.inl ⟨by kernel_rfl, ?_⟩) (by assumption) ?_
              rotate_left
              · (intro w hSw; (try dsimp only at hSw); go_simp; try with_reducible rfl)
              (try simp only [Act.put, List.setIfInBounds_toArray, List.set_cons_zero, List.set_cons_succ])
              refine wpAnyH_ready (rs := [10]) (by kernel_rfl) (by simp) ?_
              refine AllReadyH.cons (o := ⟨some 44, _, _, _, _, _⟩) rfl (fun K hK => ?_) AllReadyH.nil
              rw [if_pos (by kernel_rfl)]
              go_simp
              go_at_call 19; refine (HCC.out _ (HP1.out.keep ((Below.refl _ _).drew)) (HP2.out.keep ((Below.refl _ _).drew))).mono ?_; rintro e wq ⟨rfl, hbr⟩
              refine hK.out _ _ ?_ (fun hHeld => ?_)
              · exact ⟨(hbr.cell (p := ⟨P, 2, none⟩) lP).trans p2, (hbr.cell (p := ⟨X, 2, none⟩) lX).trans q2, (hbr.cell (p := ⟨b, off + k * 4, none⟩) lb).trans x0, (hbr.cell (p := ⟨b, off + k * 4 + 1, none⟩) lb).trans x1, (hbr.cell (p := ⟨b, off + k * 4 + 2, none⟩) lb).trans x2, (hbr.cell (p := ⟨b, off + k * 4 + 3, none⟩) lb).trans x3, (hbr.cell (p := ⟨b', off' + k * 4, none⟩) lb').trans y0, (hbr.cell (p := ⟨b', off' + k * 4 + 1, none⟩) lb').trans y1, (hbr.cell (p := ⟨b', off' + k * 4 + 2, none⟩) lb').trans y2, (hbr.cell (p := ⟨b', off' + k * 4 + 3, none⟩) lb').trans y3⟩
              clear hK K
              (try simp only [Act.put, List.setIfInBounds_toArray, List.set_cons_zero, List.set_cons_succ])
              refine wpAnyH_take (i := 11) (oi := ⟨some 45, _, _, _, _, _⟩) (v := ?_) rfl (by kernel_rfl) (by kernel_rfl) (by kernel_rfl) (fun _ _ _ h => h) (Or.inl ⟨by kernel_rfl, ?_⟩) (by assumption) ?_
              rotate_left
              · (intro w hSw; (try dsimp only at hSw); go_simp; try with_reducible rfl)
              (try simp only [Act.put, List.setIfInBounds_toArray, List.set_cons_zero, List.set_cons_succ])
              refine wpAnyH_done (by kernel_rfl) ?_ _
              have HB5 := Lib.hid (HBW.out.drew.trans (hbr.mono HBW.out.size))
              clear hbr
              go_wp2_with fail
              go_roundg (n - (k + 1))
              case measure => have := HG.out; omega
              case rel => exact ⟨k + 1, by omega, rfl, by go_num, HNX.out, HB5.out⟩
            · rw [decide_eq_false hxy] at HCC
              have E : Hid (R = false) := HR.out.trans (decide_eq_false (HDF.out hxy))
              clear hxy
              go_wp2_with fail
              refine wp_region_held_drew (S := fun w' => w'.cell? ⟨P, 2, none⟩ = some (.slice (some ⟨b, off, none⟩) n c) ∧ w'.cell? ⟨X, 2, none⟩ = some ((.slice (some ⟨b', off', none⟩) n d)) ∧ w'.cell? ⟨b, off + k * 4, none⟩ = some (.int .i64 xu) ∧ w'.cell? ⟨b, off + k * 4 + 1, none⟩ = some (.int .i64 xs) ∧ w'.cell? ⟨b, off + k * 4 + 2, none⟩ = some (.int .i64 xc) ∧ w'.cell? ⟨b, off + k * 4 + 3, none⟩ = some (.slice B1 n1 d1) ∧ w'.cell? ⟨b', off' + k * 4, none⟩ = some (.int .i64 yu) ∧ w'.cell? ⟨b', off' + k * 4 + 1, none⟩ = some (.int .i64 ys) ∧ w'.cell? ⟨b', off' + k * 4 + 2, none⟩ = some (.int .i64 yc) ∧ w'.cell? ⟨b', off' + k * 4 + 3, none⟩ = some (.slice B2 n2 d2)) (by kernel_rfl) ?_ (fun hHeld => ?_)
              · exact ⟨p2, q2, x0, x1, x2, x3, y0, y1, y2, y3⟩
              refine wpAnyH_take (i := 0) (oi := ⟨some 34, _, _, _, _, _⟩) (v := ?_) rfl (by kernel_rfl) (by kernel_rfl) (by kernel_rfl) (fun _ _ _ h => h) (Or.inl ⟨by kernel_rfl, ?_⟩) (by assumption) ?_
              rotate_left
              · (intro w hSw; (try dsimp only at hSw); go_simp; try with_reducible rfl)
              (try simp only [Act.put, List.setIfInBounds_toArray, List.set_cons_zero, List.set_cons_succ])
              refine wpAnyH_take (i := 1) (oi := ⟨some 35, _, _, _, _, _⟩) (v := ?_) rfl (by kernel_rfl) (by kernel_rfl) (by kernel_rfl) (fun _ _ _ h => h) (Or.inl ⟨by kernel_rfl, ?_⟩) (by assumption) ?_
              rotate_left
              · (intro w hSw; (try dsimp only at hSw); go_simp; try with_reducible rfl)
              (try simp only [Act.put, List.setIfInBounds_toArray, List.set_cons_zero, List.set_cons_succ])
              refine wpAnyH_take (i := 2) (oi := ⟨some 36, _, _, _, _, _⟩) (v := ?_) rfl (by kernel_rfl) (by kernel_rfl) (by kernel_rfl) (fun _ _ _ h => h) (Or.inl ⟨by kernel_rfl, ?_⟩) (by assumption) ?_
              rotate_left
              · (intro w hSw; (try dsimp only at hSw); go_simp; try with_reducible rfl)
              (try simp only [Act.put, List.setIfInBounds_toArray, List.set_cons_zero, List.set_cons_succ])
              refine wpAnyH_take (i := 3) (oi := ⟨some 37, _, _, _, _, _⟩) (v := ?_) rfl (by kernel_rfl) (by kernel_rfl) (by kernel_rfl) (fun _ _ _ h => h) (Or.inl ⟨by kernel_rfl, ?_⟩) (by assumption) ?_
              rotate_left
              · (intro w hSw; (try dsimp only at hSw); go_simp; try with_reducible rfl)
              (try simp only [Act.put, List.setIfInBounds_toArray, List.set_cons_zero, List.set_cons_succ])
              refine wpAnyH_take (i := 4) (oi := ⟨some 38, _, _, _, _, _⟩) (v := ?_) rfl (by kernel_rfl) (by kernel_rfl) (by kernel_rfl) (fun _ _ _ h => h) (Or.inl ⟨by kernel_rfl, ?_⟩) (by assumption) ?_
              rotate_left
              · (intro w hSw; (try dsimp only at hSw); go_simp; try with_reducible rfl)
              (try simp only [Act.put, List.setIfInBounds_toArray, List.set_cons_zero, List.set_cons_succ])
              refine wpAnyH_take (i := 5) (oi := ⟨some 39, _, _, _, _, _⟩) (v := ?_) rfl (by kernel_rfl) (by kernel_rfl) (by kernel_rfl) (fun _ _ _ h => h) (Or.inl ⟨by kernel_rfl, ?_⟩) (by assumption) ?_
              rotate_left
              · (intro w hSw; (try dsimp only at hSw); go_simp; try with_reducible rfl)
              (try simp only [Act.put, List.setIfInBounds_toArray, List.set_cons_zero, List.set_cons_succ])
              refine wpAnyH_take (i := 6) (oi := ⟨some 40, _, _, _, _, _⟩) (v := ?_) rfl (by kernel_rfl) (by kernel_rfl) (by kernel_rfl) (fun _ _ _ h => h) (Or.inl ⟨by kernel_rfl, ?_⟩) (by assumption) ?_
              rotate_left
              · (intro w hSw; (try dsimp only at hSw); go_simp; try with_reducible rfl)
              (try simp only [Act.put, List.setIfInBounds_toArray, List.set_cons_zero, List.set_cons_succ])
              refine wpAnyH_take (i := 7) (oi := ⟨some 41, _, _, _, _, _⟩) (v := ?_) rfl (by kernel_rfl) (by kernel_rfl) (by kernel_rfl) (fun _ _ _ h => h) (Or.inl ⟨by kernel_rfl, ?_⟩) (by assumption) ?_
              rotate_left
              · (intro w hSw; (try dsimp only at hSw); go_simp; try with_reducible rfl)
              (try simp only [Act.put, List.setIfInBounds_toArray, List.set_cons_zero, List.set_cons_succ])
              refine wpAnyH_take (i := 8) (oi := ⟨some 42, _, _, _, _, _⟩) (v := ?_) rfl (by kernel_rfl) (by kernel_rfl) (by kernel_rfl) (fun _ _ _ h => h) (Or.inl ⟨by kernel_rfl, ?_⟩) (by assumption) ?_
              rotate_left
              · (intro w hSw; (try dsimp only at hSw); go_simp; try with_reducible rfl)
              (try simp only [Act.put, List.setIfInBounds_toArray, List.set_cons_zero, List.set_cons_succ])
              refine wpAnyH_take (i := 9) (oi := ⟨some 43, _, _, _, _, _⟩) (v := ?_) rfl (by kernel_rfl) (by kernel_rfl) (by kernel_rfl) (fun _ _ _ h => h) (Or.inl ⟨by kernel_rfl, ?_⟩) (by assumption) ?_
              rotate_left
              · (intro w hSw; (try dsimp only at hSw); go_simp; try with_reducible rfl)
              (try simp only [Act.put, List.setIfInBounds_toArray, List.set_cons_zero, List.set_cons_succ])
              refine wpAnyH_ready (rs := [10]) (by kernel_rfl) (by simp) ?_
              refine AllReadyH.cons (o := ⟨some 44, _, _, _, _, _⟩) rfl (fun K hK => ?_) AllReadyH.nil
              rw [if_pos (by kernel_rfl)]
              go_simp
              go_at_call 19; refine (HCC.out _ (HP1.out.keep ((Below.refl _ _).drew)) (HP2.out.keep ((Below.refl _ _).drew))).mono ?_; rintro e wq ⟨rfl, hbr⟩
              refine hK.out _ _ ?_ (fun hHeld => ?_)
              · exact ⟨(hbr.cell (p := ⟨P, 2, none⟩) lP).trans p2, (hbr.cell (p := ⟨X, 2, none⟩) lX).trans q2, (hbr.cell (p := ⟨b, off + k * 4, none⟩) lb).trans x0, (hbr.cell (p := ⟨b, off + k * 4 + 1, none⟩) lb).trans x1, (hbr.cell (p := ⟨b, off + k * 4 + 2, none⟩) lb).trans x2, (hbr.cell (p := ⟨b, off + k * 4 + 3, none⟩) lb).trans x3, (hbr.cell (p := ⟨b', off' + k * 4, none⟩) lb').trans y0, (hbr.cell (p := ⟨b', off' + k * 4 + 1, none⟩) lb').trans y1, (hbr.cell (p := ⟨b', off' + k * 4 + 2, none⟩) lb').trans y2, (hbr.cell (p := ⟨b', off' + k * 4 + 3, none⟩) lb').trans y3⟩
              clear hK K
              (try simp only [Act.put, List.setIfInBounds_toArray, List.set_cons_zero, List.set_cons_succ])
              refine wpAnyH_take (i := 11) (oi := ⟨some 45, _, _, _, _, _⟩) (v := ?_) rfl (by kernel_rfl) (by kernel_rfl) (by kernel_rfl) (fun _ _ _ h => h) (Or.inl ⟨by kernel_rfl, ?_⟩) (by assumption) ?_
              rotate_left
              · (intro w hSw; (try dsimp only at hSw); go_simp; try with_reducible rfl)
              (try simp only [Act.put, List.setIfInBounds_toArray, List.set_cons_zero, List.set_cons_succ])
              refine wpAnyH_done (by kernel_rfl) ?_ _
              have HB5 := Lib.hid (HBE.out.drew.trans (hbr.mono HBE.out.size))
              clear hbr
              go_wp2_with fail
              go_ret
              exact ⟨ret_bool E.out.symm, HB5.out⟩
          · have hltz : ¬ (k : Int) < (n : Int) := by omega
            have E : Hid (R = true) := HR.out.trans (decide_eq_true (show l = k2 by
              have h : l.take k = k2.take k := HT
              rwa [List.take_of_length_le (by rw [HN.out]; omega), List.take_of_length_le (by rw [HM.out]; omega)] at h))
            go_wp2_with fail
            go_ret
            exact ⟨ret_bool E.out.symm, HBE.out⟩
      · have E : Hid (R = false) := HR.out.trans (decide_eq_false (show ¬ l = k2 from fun e => hne (by rw [← HN.out, ← HM.out, e])))
        have hn2 : ((n : Int) != (m : Int)) = true := by simp; omega
        clear hne
        go_enter Try.func21, Try.ntmps21
        go_wp2_with fail
        go_ret
        exact ⟨ret_bool E.out.symm, HB2.out⟩
    · have e2 : ((m1 : Int) == (m2 : Int)) = false := by simp; omega
      have e2' : ((m1 : Int) != (m2 : Int)) = true := by simp; omega
      have E : Hid (R = false) := HNO.out (.inr (.inl h2))
      clear h1 h2
      go_enter Try.func21, Try.ntmps21
      go_wp2_with fail
      go_ret
      exact ⟨ret_bool E.out.symm, HB2.out⟩
  · have e1 : (f == f') = false := by simpa using h1
    have e1' : (f != f') = true := by simpa using h1
    have E : Hid (R = false) := HNO.out (.inl h1)
    clear h1
    go_enter Try.func21, Try.ntmps21
    go_wp2_with fail
    go_ret
    exact ⟨ret_bool E.out.symm, HB2.out⟩
end Go.Proofs.Ytincbilobmhgeaa

/-
  A plan's own block is none of its places'.
  Conditions: none.
-/
set_option linter.unusedVariables false
namespace Go.Proofs.Ytincbilobmhgeaa
open Go.RowKit

theorem pn_cell {W : World} {R : Nat} {f : Int} {M : Nat} {v : Value} {T : TypeId} (h : W.heap[R]? = some (.cells #[.int .i64 f, .int .u32 (M : Int), v] T (0, 0))) (o : Nat) :
    W.cell? ⟨R, o, none⟩ = (#[.int .i64 f, .int .u32 (M : Int), v] : Array Value)[o]? := by
  simp [World.cell?, h]
theorem pcs_not {F : Nat → Prop} {W : World} {R : Nat} {f : Int} {M : Nat} {v u : Value} {T : TypeId} (h : W.heap[R]? = some (.cells #[.int .i64 f, .int .u32 (M : Int), v] T (0, 0))) {ps : List Pc} (hp : PcsIn F W u ps) : PcsIn (fun b => F b ∧ b ≠ R) W u ps := by
  obtain ⟨A, c, e, h1, h2, h3⟩ := hp
  refine ⟨A, c, e, h1, h2, fun hn => ?_⟩
  obtain ⟨b, off, e2, hb, hF, hc⟩ := h3 hn
  refine ⟨b, off, e2, hb, ⟨hF, ?_⟩, hc⟩
  rintro rfl
  obtain ⟨y, hy⟩ := exP_at (xs := ps) (k := 0) hn
  obtain ⟨g0, g1⟩ := hc 0 y hy
  rw [pn_cell h] at g0 g1
  rcases off with _ | _ | _ | off <;> simp at g0 g1
theorem pls_not {F : Nat → Prop} {W : World} {R : Nat} {f : Int} {M : Nat} {v u : Value} {T : TypeId} (h : W.heap[R]? = some (.cells #[.int .i64 f, .int .u32 (M : Int), v] T (0, 0))) {l : List Pl} (hp : PlsIn F W u l) : PlsIn (fun b => F b ∧ b ≠ R) W u l := by
  obtain ⟨ls, rfl, A, c, e, h1, h2, h3, h4⟩ := hp
  refine ⟨ls, rfl, A, c, e, h1, h2, fun hn => ?_, fun p hp => pcs_not h (h4 p hp)⟩
  obtain ⟨b, off, e2, hb, hF, hc⟩ := h3 hn
  refine ⟨b, off, e2, hb, ⟨hF, ?_⟩, hc⟩
  rintro rfl
  obtain ⟨y, hy⟩ := exP_at (xs := ls) (k := 0) hn
  obtain ⟨g0, g1, _⟩ := hc 0 y hy
  rw [pn_cell h] at g0 g1
  rcases off with _ | _ | _ | off <;> simp at g0 g1
end Go.Proofs.Ytincbilobmhgeaa
