/-
  Wants that are turned and read backwards are the same wants.
  Conditions: none.
-/
import Derived.Test.YtpfpojehcjmfnaaM26
import Derived.Shelf.RegionOpenPlain
import Derived.Test.YtpfpojehcjmfnaaM07
import Derived.Test.YtpfpojehcjmfnaaM13

/-
  Plans held against each other.
  Conditions: the slices read as places.
-/
set_option linter.unusedVariables false
set_option linter.unusedSimpArgs false
namespace Go.Proofs.Ytpfpojehcjmfnaa
open Go.RowKit

/-- Are two plans alike? -/
def sameB (f : Int) (m : Nat) (l : List Pl) (f' : Int) (m' : Nat) (l' : List Pl) : Bool := decide (f = f' ∧ m = m' ∧ l = l')
theorem sameB_no {f : Int} {m : Nat} {l : List Pl} {f' : Int} {m' : Nat} {l' : List Pl} (h : f ≠ f' ∨ m ≠ m' ∨ l ≠ l') : sameB f m l f' m' l' = false := decide_eq_false fun e => by
  rcases h with h | h | h
  · exact h e.1
  · exact h e.2.1
  · exact h e.2.2
theorem sameB_of {f : Int} {m : Nat} {l : List Pl} {f' : Int} {m' : Nat} {l' : List Pl} (h1 : f = f') (h2 : m = m') : sameB f m l f' m' l' = decide (l = l') := by
  by_cases h : l = l'
  · rw [decide_eq_true h]; exact decide_eq_true ⟨h1, h2, h⟩
  · rw [decide_eq_false h, sameB_no (.inr (.inr h))]

set_option maxRecDepth 100000 in
set_option maxHeartbeats 4000000 in
theorem refSame_any (f : Int) (m1 : Nat) (u : Value) (l : List Pl) (f' : Int) (m2 : Nat) (v : Value) (k2 : List Pl) (w : World) (hs : PlsAt w u l) (ht : PlsAt w v k2) :
    Calls Try.prog 5 #[planA f m1 u, planA f' m2 v] w (RetB (.bool (sameB f m1 l f' m2 k2)) w) := by
  have HA0 := Lib.hid hs
  have HB0 := Lib.hid ht
  obtain ⟨A, c, rfl, hc1, hc2⟩ := hs.form
  obtain ⟨B, d, rfl, hd1, hd2⟩ := ht.form
  have HNO := Lib.hid (@sameB_no f m1 l f' m2 k2)
  have HSA := Lib.hid (@sameB_of f m1 l f' m2 k2)
  obtain ⟨R, hR⟩ : ∃ R, sameB f m1 l f' m2 k2 = R := ⟨_, rfl⟩
  rw [hR] at HNO HSA ⊢
  obtain ⟨n, hn⟩ : ∃ n, l.length = n := ⟨_, rfl⟩
  obtain ⟨m, hm⟩ : ∃ m, k2.length = m := ⟨_, rfl⟩
  rw [hn] at HA0 hc1 ⊢
  rw [hm] at HB0 hd1 ⊢
  have HN := Lib.hid hn
  have HM := Lib.hid hm
  have hbn : n ≤ 9223372036854775807 := by omega
  obtain ⟨w1, P, hw1, hP, hPl, hb1, hbox⟩ := box_any w #[.int .i64 f, .int .u32 m1, .slice A n c] 28
  obtain ⟨w2, X, hw2, hX, hXl, hb2, hxbox⟩ := box_any w1 #[.int .i64 f', .int .u32 m2, .slice B m d] 28
  have HB2 := Lib.hid (hb1.trans (hb2.mono hb1.size))
  have HPB := Lib.hid (keep_block hbox hb2)
  have HXB := Lib.hid hxbox
  obtain ⟨p0, p1, p2⟩ := three_heads HPB.out
  obtain ⟨q0, q1, q2⟩ := three_heads hxbox
  have HA := Lib.hid (HA0.out.keep HB2.out)
  have HB := Lib.hid (HB0.out.keep HB2.out)
  have mixed : Try.prog.follows .mixedOrders = true := by kernel_rfl
  unfold planA
  clear hs ht hn hm hR hb1 hb2 hbox hxbox
  by_cases h1 : f = f'
  · have e1 : (f == f') = true := by simpa using h1
    have e1' : (f != f') = false := by simpa using h1
    by_cases h2 : m1 = m2
    · have e2 : ((m1 : Int) == (m2 : Int)) = true := by subst h2; simp
      have e2' : ((m1 : Int) != (m2 : Int)) = false := by subst h2; simp
      have HR := Lib.hid (HSA.out h1 h2)
      clear h1 h2
      by_cases hne : n = m
      · subst hne
        have hn2 : ((n : Int) != (n : Int)) = false := by simp
        go_enter Try.func5, Try.ntmps5
        go_wp2_with fail
        clear hw1 hP hw2 hX p0 p1 p2 q0 q1 q2
        go_loopg [5] n (fun g i wr => ∃ k : Nat, k ≤ n ∧ g = n - k ∧ i = .int .i64 k ∧ Hid (l.take k = k2.take k) ∧ Below w2.heap.size w2 wr)
        case atStart => exact ⟨0, Nat.zero_le _, by omega, rfl, rfl, Below.refl _ _⟩
        case round =>
          obtain ⟨k, hk, hg, rfl, HT, hbw⟩ := hrel
          have HG := Lib.hid hg
          have HBW := Lib.hid hbw
          have HBE := Lib.hid (HB2.out.trans (hbw.mono HB2.out.size))
          have HPW := Lib.hid (keep_block HPB.out hbw)
          have HXW := Lib.hid (keep_block HXB.out hbw)
          obtain ⟨p0, p1, p2⟩ := three_heads HPW.out
          obtain ⟨q0, q1, q2⟩ := three_heads HXW.out
          have lP := heap_lt HPW.out
          have lX := heap_lt HXW.out
          clear hg hbw
          by_cases hlt : k < n
          · have hltz : (k : Int) < (n : Int) := by omega
            have hk0 : (0 : Int) ≤ (k : Int) := by omega
            obtain ⟨x, hx⟩ := exP_at (xs := l) (k := k) (by rw [HN.out]; exact hlt)
            obtain ⟨y, hy⟩ := exP_at (xs := k2) (k := k) (by rw [HM.out]; exact hlt)
            obtain ⟨b, off, B1, d1, hAe, hbl, _, ⟨x0, x1, x2, x3⟩, hp1⟩ := (HA.out.keep HBW.out).at_ hx
            obtain ⟨b', off', B2, d2, hBe, hbl', _, ⟨y0, y1, y2, y3⟩, hp2⟩ := (HB.out.keep HBW.out).at_ hy
            subst hAe hBe
            simp only at x0 x1 x2 x3 y0 y1 y2 y3
            have HTN := Lib.hid (fun e => takeP_same HT hx hy e)
            have HDF := Lib.hid (fun e => differP hx hy e)
            have HP1 := Lib.hid hp1
            have HP2 := Lib.hid hp2
            clear hx hy hp1 hp2
            have lb := hbl
            have lb' := hbl'
            obtain ⟨xu, xs, xc, xp⟩ := x
            obtain ⟨yu, ys, yc, yp⟩ := y
            simp only at x0 x1 x2 x3 y0 y1 y2 y3 HP1 HP2
            have HCC := Lib.hid (fun W h h' => refSamePlace_any (.slice B1 xp.length d1) (.slice B2 yp.length d2) ⟨xu, xs, xc, xp⟩ ⟨yu, ys, yc, yp⟩ W h h')
            unfold plA at HCC
            simp only at HCC
            obtain ⟨n1, hn1⟩ : ∃ n1, xp.length = n1 := ⟨_, rfl⟩
            obtain ⟨n2, hn2⟩ : ∃ n2, yp.length = n2 := ⟨_, rfl⟩
            rw [hn1] at x3 HP1 HCC
            rw [hn2] at y3 HP2 HCC
            clear hn1 hn2
            by_cases hxy : (⟨xu, xs, xc, xp⟩ : Pl) = ⟨yu, ys, yc, yp⟩
            · rw [decide_eq_true hxy] at HCC
              have HNX := Lib.hid (HTN.out hxy)
              clear hxy
              go_wp2_with fail
              refine wp_region_held_drew (S := fun w' => w'.cell? ⟨P, 2, none⟩ = some (.slice (some ⟨b, off, none⟩) n c) ∧ w'.cell? ⟨X, 2, none⟩ = some ((.slice (some ⟨b', off', none⟩) n d)) ∧ w'.cell? ⟨b, off + k * 4, none⟩ = some (.int .i64 xu) ∧ w'.cell? ⟨b, off + k * 4 + 1, none⟩ = some (.int .i64 xs) ∧ w'.cell? ⟨b, off + k * 4 + 2, none⟩ = some (.int .i64 xc) ∧ w'.cell? ⟨b, off + k * 4 + 3, none⟩ = some (.slice B1 n1 d1) ∧ w'.cell? ⟨b', off' + k * 4, none⟩ = some (.int .i64 yu) ∧ w'.cell? ⟨b', off' + k * 4 + 1, none⟩ = some (.int .i64 ys) ∧ w'.cell? ⟨b', off' + k * 4 + 2, none⟩ = some (.int .i64 yc) ∧ w'.cell? ⟨b', off' + k * 4 + 3, none⟩ = some (.slice B2 n2 d2)) (by kernel_rfl) ?_ (fun hHeld => ?_)
              · exact ⟨p2, q2, x0, x1, x2, x3, y0, y1, y2, y3⟩
              refine wpAnyH_take (i := 0) (oi := ⟨some 34, _, _, _, _, _⟩) (v := ?_) rfl (by kernel_rfl) (by kernel_rfl) (by kernel_rfl) (fun _ _ _ h => h) (Or.inl ⟨by kernel_rfl, ?_⟩) (by assumption) ?_
              rotate_left
              · (intro w hSw; (try dsimp only at hSw); go_simp; try with_reducible rfl)
              (try simp only [Act.put, List.setIfInBounds_toArray, List.set_cons_zero, List.set_cons_succ])
              refine wpAnyH_take (i := 1) (oi := ⟨some 35, _, _, _, _, _⟩) (v := ?_) rfl (by kernel_rfl) (by kernel_rfl) (by kernel_rfl) (fun _ _ _ h => h) (Or.inl ⟨by kernel_rfl, ?_⟩) (by assumption) ?_
              rotate_left
              · (intro w hSw; (try dsimp only at hSw); go_simp; try with_reducible rfl)
              (try simp only [Act.put, List.setIfInBounds_toArray, List.set_cons_zero, List.set_cons_succ])
              refine wpAnyH_take (i := 2) (oi := ⟨some 36, _, _, _, _, _⟩) (v := ?_) rfl (by kernel_rfl) (by kernel_rfl) (by kernel_rfl) (fun _ _ _ h => h) (Or.inl ⟨by kernel_rfl, ?_⟩) (by assumption) ?_
              rotate_left
              · (intro w hSw; (try dsimp only at hSw); go_simp; try with_reducible rfl)
              (try simp only [Act.put, List.setIfInBounds_toArray, List.set_cons_zero, List.set_cons_succ])
              refine wpAnyH_take (i := 3) (oi := ⟨some 37, _, _, _, _, _⟩) (v := ?_) rfl (by kernel_rfl) (by kernel_rfl) (by kernel_rfl) (fun _ _ _ h => h) (Or.inl ⟨by kernel_rfl, ?_⟩) (by assumption) ?_
              rotate_left
              · (intro w hSw; (try dsimp only at hSw); go_simp; try with_reducible rfl)
              (try simp only [Act.put, List.setIfInBounds_toArray, List.set_cons_zero, List.set_cons_succ])
              refine wpAnyH_take (i := 4) (oi := ⟨some 38, _, _, _, _, _⟩) (v := ?_) rfl (by kernel_rfl) (by kernel_rfl) (by kernel_rfl) (fun _ _ _ h => h) (Or.inl ⟨by kernel_rfl, ?_⟩) (by assumption) ?_
              rotate_left
              · (intro w hSw; (try dsimp only at hSw); go_simp; try with_reducible rfl)
              (try simp only [Act.put, List.setIfInBounds_toArray, List.set_cons_zero, List.set_cons_succ])
              refine wpAnyH_take (i := 5) (oi := ⟨some 39, _, _, _, _, _⟩) (v := ?_) rfl (by kernel_rfl) (by kernel_rfl) (by kernel_rfl) (fun _ _ _ h => h) (Or.inl ⟨by kernel_rfl, ?_⟩) (by assumption) ?_
              rotate_left
              · (intro w hSw; (try dsimp only at hSw); go_simp; try with_reducible rfl)
              (try simp only [Act.put, List.setIfInBounds_toArray, List.set_cons_zero, List.set_cons_succ])
              refine wpAnyH_take (i := 6) (oi := ⟨some 40, _, _, _, _, _⟩) (v := ?_) rfl (by kernel_rfl) (by kernel_rfl) (by kernel_rfl) (fun _ _ _ h => h) (Or.inl ⟨by kernel_rfl, ?_⟩) (by assumption) ?_
              rotate_left
              · (intro w hSw; (try dsimp only at hSw); go_simp; try with_reducible rfl)
              (try simp only [Act.put, List.setIfInBounds_toArray, List.set_cons_zero, List.set_cons_succ])
              refine wpAnyH_take (i := 7) (oi := ⟨some 41, _, _, _, _, _⟩) (v := ?_) rfl (by kernel_rfl) (by kernel_rfl) (by kernel_rfl) (fun _ _ _ h => h) (Or.inl ⟨by kernel_rfl, ?_⟩) (by assumption) ?_
              rotate_left
              · (intro w hSw; (try dsimp only at hSw); go_simp; try with_reducible rfl)
              (try simp only [Act.put, List.setIfInBounds_toArray, List.set_cons_zero, List.set_cons_succ])
              refine wpAnyH_take (i := 8) (oi := ⟨some 42, _, _, _, _, _⟩) (v := ?_) rfl (by kernel_rfl) (by kernel_rfl) (by kernel_rfl) (fun _ _ _ h => h) (Or.inl ⟨by kernel_rfl, ?_⟩) (by assumption) ?_
              rotate_left
              · (intro w hSw; (try dsimp only at hSw); go_simp; try with_reducible rfl)
              (try simp only [Act.put, List.setIfInBounds_toArray, List.set_cons_zero, List.set_cons_succ])
              refine wpAnyH_take (i := 9) (oi := ⟨some 43, _, _, _, _, _⟩) (v := ?_) rfl (by kernel_rfl) (by kernel_rfl) (by kernel_rfl) (fun _ _ _ h => h) (Or.inl ⟨by kernel_rfl, ?_⟩) (by assumption) ?_
              rotate_left
              · (intro w hSw; (try dsimp only at hSw); go_simp; try with_reducible rfl)
              (try simp only [Act.put, List.setIfInBounds_toArray, List.set_cons_zero, List.set_cons_succ])
              refine wpAnyH_ready (rs := [10]) (by kernel_rfl) (by simp) ?_
              refine AllReadyH.cons (o := ⟨some 44, _, _, _, _, _⟩) rfl (fun K hK => ?_) AllReadyH.nil
              rw [if_pos (by kernel_rfl)]
              go_simp
              go_at_call 9; refine (HCC.out _ (HP1.out.keep ((Below.refl _ _).drew)) (HP2.out.keep ((Below.refl _ _).drew))).mono ?_; rintro e wq ⟨rfl, hbr⟩
              refine hK.out _ _ ?_ (fun hHeld => ?_)
              · exact ⟨(hbr.cell (p := ⟨P, 2, none⟩) lP).trans p2, (hbr.cell (p := ⟨X, 2, none⟩) lX).trans q2, (hbr.cell (p := ⟨b, off + k * 4, none⟩) lb).trans x0, (hbr.cell (p := ⟨b, off + k * 4 + 1, none⟩) lb).trans x1, (hbr.cell (p := ⟨b, off + k * 4 + 2, none⟩) lb).trans x2, (hbr.cell (p := ⟨b, off + k * 4 + 3, none⟩) lb).trans x3, (hbr.cell (p := ⟨b', off' + k * 4, none⟩) lb').trans y0, (hbr.cell (p := ⟨b', off' + k * 4 + 1, none⟩) lb').trans y1, (hbr.cell (p := ⟨b', off' + k * 4 + 2, none⟩) lb').trans y2, (hbr.cell (p := ⟨b', off' + k * 4 + 3, none⟩) lb').trans y3⟩
              clear hK K
              (try simp only [Act.put, List.setIfInBounds_toArray, List.set_cons_zero, List.set_cons_succ])
              refine wpAnyH_take (i := 11) (oi := ⟨some 45, _, _, _, _, _⟩) (v := ?_) rfl (by kernel_rfl) (by kernel_rfl) (by kernel_rfl) (fun _ _ _ h => h) (Or.inl ⟨by kernel_rfl, ?_⟩) (by assumption) ?_
              rotate_left
              · (intro w hSw; (try dsimp only at hSw); go_simp; try with_reducible rfl)
              (try simp only [Act.put, List.setIfInBounds_toArray, List.set_cons_zero, List.set_cons_succ])
              refine wpAnyH_done (by kernel_rfl) ?_ _
              have HB5 := Lib.hid (HBW.out.drew.trans (hbr.mono HBW.out.size))
              clear hbr
              go_wp2_with fail
              go_roundg (n - (k + 1))
              case measure => have := HG.out; omega
              case rel => exact ⟨k + 1, by omega, rfl, by go_num, HNX.out, HB5.out⟩
            · rw [decide_eq_false hxy] at HCC
              have E : Hid (R = false) := HR.out.trans (decide_eq_false (HDF.out hxy))
              clear hxy
              go_wp2_with fail
              refine wp_region_held_drew (S := fun w' => w'.cell? ⟨P, 2, none⟩ = some (.slice (some ⟨b, off, none⟩) n c) ∧ w'.cell? ⟨X, 2, none⟩ = some ((.slice (some ⟨b', off', none⟩) n d)) ∧ w'.cell? ⟨b, off + k * 4, none⟩ = some (.int .i64 xu) ∧ w'.cell? ⟨b, off + k * 4 + 1, none⟩ = some (.int .i64 xs) ∧ w'.cell? ⟨b, off + k * 4 + 2, none⟩ = some (.int .i64 xc) ∧ w'.cell? ⟨b, off + k * 4 + 3, none⟩ = some (.slice B1 n1 d1) ∧ w'.cell? ⟨b', off' + k * 4, none⟩ = some (.int .i64 yu) ∧ w'.cell? ⟨b', off' + k * 4 + 1, none⟩ = some (.int .i64 ys) ∧ w'.cell? ⟨b', off' + k * 4 + 2, none⟩ = some (.int .i64 yc) ∧ w'.cell? ⟨b', off' + k * 4 + 3, none⟩ = some (.slice B2 n2 d2)) (by kernel_rfl) ?_ (fun hHeld => ?_)
              · exact ⟨p2, q2, x0, x1, x2, x3, y0, y1, y2, y3⟩
              refine wpAnyH_take (i := 0) (oi := ⟨some 34, _, _, _, _, _⟩) (v := ?_) rfl (by kernel_rfl) (by kernel_rfl) (by kernel_rfl) (fun _ _ _ h => h) (Or.inl ⟨by kernel_rfl, ?_⟩) (by assumption) ?_
              rotate_left
              · (intro w hSw; (try dsimp only at hSw); go_simp; try with_reducible rfl)
              (try simp only [Act.put, List.setIfInBounds_toArray, List.set_cons_zero, List.set_cons_succ])
              refine wpAnyH_take (i := 1) (oi := ⟨some 35, _, _, _, _, _⟩) (v := ?_) rfl (by kernel_rfl) (by kernel_rfl) (by kernel_rfl) (fun _ _ _ h => h) (Or.inl ⟨by kernel_rfl, ?_⟩) (by assumption) ?_
              rotate_left
              · (intro w hSw; (try dsimp only at hSw); go_simp; try with_reducible rfl)
              (try simp only [Act.put, List.setIfInBounds_toArray, List.set_cons_zero, List.set_cons_succ])
              refine wpAnyH_take (i := 2) (oi := ⟨some 36, _, _, _, _, _⟩) (v := ?_) rfl (by kernel_rfl) (by kernel_rfl) (by kernel_rfl) (fun _ _ _ h => h) (Or.inl ⟨by kernel_rfl, ?_⟩) (by assumption) ?_
              rotate_left
              · (intro w hSw; (try dsimp only at hSw); go_simp; try with_reducible rfl)
              (try simp only [Act.put, List.setIfInBounds_toArray, List.set_cons_zero, List.set_cons_succ])
              refine wpAnyH_take (i := 3) (oi := ⟨some 37, _, _, _, _, _⟩) (v := ?_) rfl (by kernel_rfl) (by kernel_rfl) (by kernel_rfl) (fun _ _ _ h => h) (Or.inl ⟨by kernel_rfl, ?_⟩) (by assumption) ?_
              rotate_left
              · (intro w hSw; (try dsimp only at hSw); go_simp; try with_reducible rfl)
              (try simp only [Act.put, List.setIfInBounds_toArray, List.set_cons_zero, List.set_cons_succ])
              refine wpAnyH_take (i := 4) (oi := ⟨some 38, _, _, _, _, _⟩) (v := ?_) rfl (by kernel_rfl) (by kernel_rfl) (by kernel_rfl) (fun _ _ _ h => h) (Or.inl ⟨by kernel_rfl, ?_⟩) (by assumption) ?_
              rotate_left
              · (intro w hSw; (try dsimp only at hSw); go_simp; try with_reducible rfl)
              (try simp only [Act.put, List.setIfInBounds_toArray, List.set_cons_zero, List.set_cons_succ])
              refine wpAnyH_take (i := 5) (oi := ⟨some 39, _, _, _, _, _⟩) (v := ?_) rfl (by kernel_rfl) (by kernel_rfl) (by kernel_rfl) (fun _ _ _ h => h) (Or.inl ⟨by kernel_rfl, ?_⟩) (by assumption) ?_
              rotate_left
              · (intro w hSw; (try dsimp only at hSw); go_simp; try with_reducible rfl)
              (try simp only [Act.put, List.setIfInBounds_toArray, List.set_cons_zero, List.set_cons_succ])
              refine wpAnyH_take (i := 6) (oi := ⟨some 40, _, _, _, _, _⟩) (v := ?_) rfl (by kernel_rfl) (by kernel_rfl) (by kernel_rfl) (fun _ _ _ h => h) (Or.inl ⟨by kernel_rfl, ?_⟩) (by assumption) ?_
              rotate_left
              · (intro w hSw; (try dsimp only at hSw); go_simp; try with_reducible rfl)
              (try simp only [Act.put, List.setIfInBounds_toArray, List.set_cons_zero, List.set_cons_succ])
              refine wpAnyH_take (i := 7) (oi := ⟨some 41, _, _, _, _, _⟩) (v := ?_) rfl (by kernel_rfl) (by kernel_rfl) (by kernel_rfl) (fun _ _ _ h => h) (Or.inl ⟨by kernel_rfl, ?_⟩) (by assumption) ?_
              rotate_left
              · (intro w hSw; (try dsimp only at hSw); go_simp; try with_reducible rfl)
              (try simp only [Act.put, List.setIfInBounds_toArray, List.set_cons_zero, List.set_cons_succ])
              refine wpAnyH_take (i := 8) (oi := ⟨some 42, _, _, _, _, _⟩) (v := ?_) rfl (by kernel_rfl) (by kernel_rfl) (by kernel_rfl) (fun _ _ _ h => h) (Or.inl ⟨by kernel_rfl, ?_⟩) (by assumption) ?_
              rotate_left
              · (intro w hSw; (try dsimp only at hSw); go_simp; try with_reducible rfl)
              (try simp only [Act.put, List.setIfInBounds_toArray, List.set_cons_zero, List.set_cons_succ])
              refine wpAnyH_take (i := 9) (oi := ⟨some 43, _, _, _, _, _⟩) (v := ?_) rfl (by kernel_rfl) (by kernel_rfl) (by kernel_rfl) (fun _ _ _ h => h) (Or.inl ⟨by kernel_rfl, ?_⟩) (by assumption) ?_
              rotate_left
              · (intro w hSw; (try dsimp only at hSw); go_simp; try with_reducible rfl)
              (try simp only [Act.put, List.setIfInBounds_toArray, List.set_cons_zero, List.set_cons_succ])
              refine wpAnyH_ready (rs := [10]) (by kernel_rfl) (by simp) ?_
              refine AllReadyH.cons (o := ⟨some 44, _, _, _, _, _⟩) rfl (fun K hK => ?_) AllReadyH.nil
              rw [if_pos (by kernel_rfl)]
              go_simp
              go_at_call 9; refine (HCC.out _ (HP1.out.keep ((Below.refl _ _).drew)) (HP2.out.keep ((Below.refl _ _).drew))).mono ?_; rintro e wq ⟨rfl, hbr⟩
              refine hK.out _ _ ?_ (fun hHeld => ?_)
              · exact ⟨(hbr.cell (p := ⟨P, 2, none⟩) lP).trans p2, (hbr.cell (p := ⟨X, 2, none⟩) lX).trans q2, (hbr.cell (p := ⟨b, off + k * 4, none⟩) lb).trans x0, (hbr.cell (p := ⟨b, off + k * 4 + 1, none⟩) lb).trans x1, (hbr.cell (p := ⟨b, off + k * 4 + 2, none⟩) lb).trans x2, (hbr.cell (p := ⟨b, off + k * 4 + 3, none⟩) lb).trans x3, (hbr.cell (p := ⟨b', off' + k * 4, none⟩) lb').trans y0, (hbr.cell (p := ⟨b', off' + k * 4 + 1, none⟩) lb').trans y1, (hbr.cell (p := ⟨b', off' + k * 4 + 2, none⟩) lb').trans y2, (hbr.cell (p := ⟨b', off' + k * 4 + 3, none⟩) lb').trans y3⟩
              clear hK K
              (try simp only [Act.put, List.setIfInBounds_toArray, List.set_cons_zero, List.set_cons_succ])
              refine wpAnyH_take (i := 11) (oi := ⟨some 45, _, _, _, _, _⟩) (v := ?_) rfl (by kernel_rfl) (by kernel_rfl) (by kernel_rfl) (fun _ _ _ h => h) (Or.inl ⟨by kernel_rfl, ?_⟩) (by assumption) ?_
              rotate_left
              · (intro w hSw; (try dsimp only at hSw); go_simp; try with_reducible rfl)
              (try simp only [Act.put, List.setIfInBounds_toArray, List.set_cons_zero, List.set_cons_succ])
              refine wpAnyH_done (by kernel_rfl) ?_ _
              have HB5 := Lib.hid (HBE.out.drew.trans (hbr.mono HBE.out.size))
              clear hbr
              go_wp2_with fail
              go_ret
              exact ⟨ret_bool E.out.symm, HB5.out⟩
          · have hltz : ¬ (k : Int) < (n : Int) := by omega
            have E : Hid (R = true) := HR.out.trans (decide_eq_true (show l = k2 by
              have h : l.take k = k2.take k := HT
              rwa [List.take_of_length_le (by rw [HN.out]; omega), List.take_of_length_le (by rw [HM.out]; omega)] at h))
            go_wp2_with fail
            go_ret
            exact ⟨ret_bool E.out.symm, HBE.out⟩
      · have E : Hid (R = false) := HR.out.trans (decide_eq_false (show ¬ l = k2 from fun e => hne (by rw [← HN.out, ← HM.out, e])))
        have hn2 : ((n : Int) != (m : Int)) = true := by simp; omega
        clear hne
        go_enter Try.func5, Try.ntmps5
        go_wp2_with fail
        go_ret
        exact ⟨ret_bool E.out.symm, HB2.out⟩
    · have e2 : ((m1 : Int) == (m2 : Int)) = false := by simp; omega
      have e2' : ((m1 : Int) != (m2 : Int)) = true := by simp; omega
      have E : Hid (R = false) := HNO.out (.inr (.inl h2))
      clear h1 h2
      go_enter Try.func5, Try.ntmps5
      go_wp2_with fail
      go_ret
      exact ⟨ret_bool E.out.symm, HB2.out⟩
  · have e1 : (f == f') = false := by simpa using h1
    have e1' : (f != f') = true := by simpa using h1
    have E : Hid (R = false) := HNO.out (.inl h1)
    clear h1
    go_enter Try.func5, Try.ntmps5
    go_wp2_with fail
    go_ret
    exact ⟨ret_bool E.out.symm, HB2.out⟩
end Go.Proofs.Ytpfpojehcjmfnaa

/-
  The page's example comes out.
  Conditions: none.
-/
set_option linter.unusedVariables false
set_option linter.unusedSimpArgs false
namespace Go.Proofs.Ytpfpojehcjmfnaa
open Go.RowKit

set_option maxRecDepth 100000 in
set_option maxHeartbeats 4000000 in
theorem awake_any (w : World) : Calls Try.prog 6 #[] w (RetB (.bool true) w) := by
  obtain ⟨w3, S, hw3, hS, hSl, hb3, hsb⟩ := box_any w #[.int .i64 1, .int .i64 3, .int .i64 2, .int .i64 3, .int .i64 3, .int .i64 2] 25
  have HB3 := Lib.hid hb3
  have HW3 : Hid (SpansAt w3 (.slice (some ⟨S, 0, none⟩) 3 3) exA) := Lib.hid (by
    have := lit_spans w exA 25 (by decide)
    rw [hS] at this
    rw [← hw3]
    exact this)
  have HSP := Lib.hid (full_any 4 3 (.slice (some ⟨S, 0, none⟩) 3 3) exA w3 HW3.out exA_ints (by decide) (by decide))
  clear hb3 hsb
  go_enter Try.func6, Try.ntmps6
  go_wp2_with fail
  refine HSP.out.mono ?_
  rintro e w4 ⟨E, hwhy, hb4, hcase⟩
  have hE : E = 0 := hwhy.unique ex_ok.why
  obtain ⟨_, v4, rfl, hpl4⟩ := hcase.resolve_right fun h => h.1 hE
  rw [ex_full] at hpl4
  have HB4 := Lib.hid (HB3.out.trans (hb4.mono HB3.out.size))
  obtain ⟨A4, d4, rfl, _, _⟩ := hpl4.form
  have hlen : exN.length = 3 := rfl
  rw [hlen] at hpl4 ⊢
  obtain ⟨w5, Q, hw5, hQ, hQl, hb5, hqb⟩ := box_any w4 #[.int .i64 0, .int .u32 0, .slice none 0 0] 28
  have HQB := Lib.hid hqb
  obtain ⟨w6, hw6⟩ : ∃ w6, w5.setRow Q #[.int .i64 4, .int .u32 3, .slice A4 3 d4] = w6 := ⟨_, rfl⟩
  have hb6 : Below w4.heap.size w4 w6 := by rw [← hw6]; exact below_row hb5 (by omega) _
  have HB6 := Lib.hid (HB4.out.trans (hb6.mono HB4.out.size))
  have HQ6 : Hid (w6.heap[Q]? = some (.cells #[.int .i64 4, .int .u32 3, .slice A4 3 d4] 28 (0, 0))) := Lib.hid (by rw [← hw6]; exact setRow_heap _ _ _ _ _ _ hqb)
  have HPL6 := Lib.hid (hpl4.keep hb6)
  have HFI := Lib.hid (refFind_any 4 3 (.slice A4 3 d4) exN 3 w6 HPL6.out (by decide))
  rw [ex_found] at HFI
  unfold RetFind planA plA at HFI
  obtain ⟨p0, p1, p2⟩ := three_heads HQ6.out
  clear hb4 hb5 hb6 hpl4 hqb hwhy hE hw3 hS hcase
  unfold planA
  go_wp2_with (refine wpList_store_row rfl _ _ _ rfl Q #[.int .i64 4, .int .u32 3, .slice A4 3 d4] rfl rfl 28 _ HQB.out (Try.sizePn _ _ _) rfl (one3 _ _ _ _ _) ?_)
  refine HFI.out.mono ?_
  rintro e w7 ⟨vx, rfl, hx, hb7⟩
  have hx : PcsAt w7 vx [⟨0, 1⟩, ⟨1, 2⟩] := hx
  have HB7 := Lib.hid (HB6.out.trans (hb7.mono HB6.out.size))
  obtain ⟨Ax, dx, rfl⟩ := hx.form
  obtain ⟨w8, X, hw8, hX, hXl, hb8, hxb⟩ := box_any w7 #[.int .i64 3, .int .i64 2, .int .i64 0, .slice Ax 2 dx] 41
  obtain ⟨w9, S9, hw9, hS9, hSl9, hb9, hsb9⟩ := box_any w8 #[.int .i64 1, .int .i64 3, .int .i64 2, .int .i64 3] 25
  have HB9 := Lib.hid (HB7.out.trans ((hb8.mono HB7.out.size).trans (hb9.mono (Nat.le_trans HB7.out.size hb8.size))))
  have HX9 := Lib.hid (keep_block hxb hb9)
  have HPX9 := Lib.hid ((hx.keep hb8).keep hb9)
  have HW9 : Hid (SpansAt w9 (.slice (some ⟨S9, 0, none⟩) 2 2) exB) := Lib.hid (by
    have := lit_spans w8 exB 25 (by decide)
    rw [hS9] at this
    rw [← hw9]
    exact this)
  have HLE := Lib.hid (pkLeast_any 4 (.slice (some ⟨S9, 0, none⟩) 2 2) exB w9 HW9.out exB_ints)
  rw [ex_least.1, ex_least.2] at HLE
  clear hb7 hb8 hb9 hx hsb9 hxb p0 p1 p2 hw5 hQ hw6
  simp only [Option.getD, Option.isSome]
  go_wp2_with fail
  refine HLE.out.mono ?_
  rintro e w10 ⟨rfl, hb10⟩
  have HB10 := Lib.hid (HB9.out.trans (hb10.mono HB9.out.size))
  have HX10 := Lib.hid (keep_block HX9.out hb10)
  obtain ⟨w11, S11, hw11, hS11, hSl11, hb11, hsb11⟩ := box_any w10 #[.int .i64 0, .int .u64 1, .int .i64 1, .int .u64 2] 48
  have HB11 := Lib.hid (HB10.out.trans (hb11.mono HB10.out.size))
  have HX11 := Lib.hid (keep_block HX10.out hb11)
  have hpc : PcsAt w11 (.slice (some ⟨S11, 0, none⟩) 2 2) [⟨0, 1⟩, ⟨1, 2⟩] := by
    refine ⟨some ⟨S11, 0, none⟩, 2, rfl, Nat.le_refl _, by decide, fun _ => ⟨S11, 0, rfl, heap_lt hsb11, trivial, fun j y hy => ?_⟩⟩
    rcases j with _ | _ | j
    · simp at hy
      subst hy
      refine ⟨?_, ?_⟩ <;> simp [World.cell?, hsb11]
    · simp at hy
      subst hy
      refine ⟨?_, ?_⟩ <;> simp [World.cell?, hsb11]
    · simp at hy
  have HSM := Lib.hid (refSamePlace_any (.slice Ax 2 dx) (.slice (some ⟨S11, 0, none⟩) 2 2) ⟨3, 2, 0, [⟨0, 1⟩, ⟨1, 2⟩]⟩ ⟨3, 2, 0, [⟨0, 1⟩, ⟨1, 2⟩]⟩ w11 ((HPX9.out.keep hb10).keep hb11) hpc)
  rw [show decide ((⟨3, 2, 0, [⟨0, 1⟩, ⟨1, 2⟩]⟩ : Pl) = ⟨3, 2, 0, [⟨0, 1⟩, ⟨1, 2⟩]⟩) = true from decide_eq_true rfl] at HSM
  unfold plA at HSM
  obtain ⟨x0, x1, x2, x3⟩ := four_heads HX10.out
  clear hb10 hb11 hpc hsb11 hw8 hX hw9 hS9
  go_wp2_with fail
  refine HSM.out.mono ?_
  rintro e w12 ⟨rfl, hb12⟩
  have HB12 := Lib.hid (HB11.out.trans (hb12.mono HB11.out.size))
  obtain ⟨w13, S13, hw13, hS13, hSl13, hb13, hsb13⟩ := box_any w12 #[.int .i64 1, .int .i64 3, .int .i64 2, .int .i64 3] 25
  have HB13 := Lib.hid (HB12.out.trans (hb13.mono HB12.out.size))
  have HW13 : Hid (SpansAt w13 (.slice (some ⟨S13, 0, none⟩) 2 2) exB) := Lib.hid (by
    have := lit_spans w12 exB 25 (by decide)
    rw [hS13] at this
    rw [← hw13]
    exact this)
  have HFS := Lib.hid (pkFits_any 4 1 (.slice (some ⟨S13, 0, none⟩) 2 2) exB w13 HW13.out exB_ints (by decide) (by decide))
  clear hb12 hb13 hsb13 x0 x1 x2 x3 hw11 hS11
  go_wp2_with fail
  refine HFS.out.mono ?_
  rintro e w14 ⟨E2, hwhy2, hb14, rfl⟩
  have hE2 : E2 = 12 := hwhy2.unique ex_no
  subst hE2
  have HB14 := Lib.hid (HB13.out.trans (hb14.mono HB13.out.size))
  clear hb14 hwhy2 hw13 hS13
  go_wp2_with fail
  go_ret
  exact ⟨rfl, HB14.out⟩
end Go.Proofs.Ytpfpojehcjmfnaa

/-
  Wants that are turned and read backwards are the same wants.
  Conditions: none.
-/
set_option linter.unusedVariables false
namespace Go.Proofs.Ytpfpojehcjmfnaa

/-- The wants from k on down, each turned by t. -/
def turnL (l : List Sp) (t : Nat) : Nat → List Sp
  | 0 => []
  | k + 1 => turnL l t k ++ (l[(l.length - 1 - k + t) % l.length]?).toList
theorem turnL_len {l : List Sp} (t : Nat) (h : 0 < l.length) : ∀ k : Nat, (turnL l t k).length = k
  | 0 => rfl
  | k + 1 => by
    have hm := Nat.mod_lt (l.length - 1 - k + t) h
    rw [turnL, List.length_append, turnL_len t h k, List.getElem?_eq_getElem hm]
    rfl
theorem turnL_size {l : List Sp} (t k : Nat) (hk : k ≤ l.length) : (turnL l t k).length = k := by
  by_cases h : 0 < l.length
  · exact turnL_len t h k
  · have : k = 0 := by omega
    subst this
    rfl
theorem turnL_get {l : List Sp} {t : Nat} (h : 0 < l.length) : ∀ {k j : Nat}, j < k → (turnL l t k)[j]? = l[(l.length - 1 - j + t) % l.length]?
  | 0, j, hj => by omega
  | k + 1, j, hj => by
    have hl := turnL_len (l := l) t h k
    rw [turnL]
    by_cases e : j < k
    · rw [List.getElem?_append_left (by rw [hl]; exact e), turnL_get h e]
    · have : j = k := by omega
      subst this
      have hm := Nat.mod_lt (l.length - 1 - j + t) h
      rw [List.getElem?_append_right (by rw [hl]; exact Nat.le_refl _), hl, Nat.sub_self, List.getElem?_eq_getElem hm]
      rfl
theorem turn_mod {n i t : Nat} (hi : i < n) : (i + t) % n = if i + t % n < n then i + t % n else i + t % n - n := by
  have hs := Nat.mod_lt t (show 0 < n by omega)
  rw [Nat.add_mod, Nat.mod_eq_of_lt hi]
  by_cases e : i + t % n < n
  · rw [if_pos e, Nat.mod_eq_of_lt e]
  · rw [if_neg e, Nat.mod_eq_sub_mod (by omega), Nat.mod_eq_of_lt (by omega)]
theorem turnL_all {l : List Sp} {t : Nat} (h : 0 < l.length) : turnL l t l.length = (l.drop (t % l.length) ++ l.take (t % l.length)).reverse := by
  have hs := Nat.mod_lt t h
  have hlen : (l.drop (t % l.length) ++ l.take (t % l.length)).length = l.length := by rw [List.length_append, List.length_drop, List.length_take]; omega
  refine List.ext_getElem? fun j => ?_
  by_cases hj : j < l.length
  · rw [turnL_get h hj, List.getElem?_reverse (by rw [hlen]; exact hj), hlen, turn_mod (by omega)]
    by_cases e : l.length - 1 - j + t % l.length < l.length
    · rw [if_pos e, List.getElem?_append_left (by rw [List.length_drop]; omega), List.getElem?_drop]
      congr 1
      omega
    · rw [if_neg e, List.getElem?_append_right (by rw [List.length_drop]; omega), List.length_drop, List.getElem?_take, if_pos (by omega)]
      congr 1
      omega
  · rw [List.getElem?_eq_none (by rw [turnL_len t h]; omega), List.getElem?_eq_none (by rw [List.length_reverse, hlen]; omega)]
theorem turnL_perm (l : List Sp) (t : Nat) : l.Perm (turnL l t l.length) := by
  by_cases h : 0 < l.length
  · rw [turnL_all h]
    refine List.Perm.trans ?_ (List.reverse_perm _).symm
    refine List.Perm.trans ?_ List.perm_append_comm
    rw [List.take_append_drop]
  · have : l = [] := List.eq_nil_of_length_eq_zero (by omega)
    subst this
    exact List.Perm.refl _
theorem turnL_ints {l : List Sp} (h : ∀ s ∈ l, IntS s) (t : Nat) : IntsS (turnL l t l.length) := fun s hs => h s ((turnL_perm l t).mem_iff.2 hs)
/-- One order is as good as another one. -/
theorem why_perm {f : Int} {m : Nat} {a b : List Sp} {E E' : Int} (hp : a.Perm b) (h : Why20 f m a E) (h' : Why20 f m b E') : E = 0 ↔ E' = 0 :=
  ⟨fun e => by subst e; exact h'.unique (h.zero.perm hp).why, fun e => by subst e; exact h.unique (h'.zero.perm hp.symm).why⟩
end Go.Proofs.Ytpfpojehcjmfnaa
