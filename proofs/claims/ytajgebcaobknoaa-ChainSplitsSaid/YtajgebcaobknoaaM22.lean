/-
  Check of the document.
  Conditions: the slice reads as wants.
-/
import Derived.Test.YtajgebcaobknoaaM21
import Derived.Shelf.RegionOpenPlain
import Derived.Test.YtajgebcaobknoaaM05
import Derived.Test.YtajgebcaobknoaaM01
import Derived.Test.YtajgebcaobknoaaM04
import Derived.Test.YtajgebcaobknoaaM14

/-
  Plans held against each other.
  Conditions: the slices read as places.
-/
set_option linter.unusedVariables false
set_option linter.unusedSimpArgs false
namespace Go.Proofs.Ytajgebcaobknoaa
open Go.RowKit

/-- Are two plans alike? -/
def sameB (f : Int) (m : Nat) (l : List Pl) (f' : Int) (m' : Nat) (l' : List Pl) : Bool := decide (f = f' ∧ m = m' ∧ l = l')
theorem sameB_no {f : Int} {m : Nat} {l : List Pl} {f' : Int} {m' : Nat} {l' : List Pl} (h : f ≠ f' ∨ m ≠ m' ∨ l ≠ l') : sameB f m l f' m' l' = false := decide_eq_false fun e => by
  rcases h with h | h | h
  · exact h e.1
  · exact h e.2.1
  · exact h e.2.2
theorem sameB_of {f : Int} {m : Nat} {l : List Pl} {f' : Int} {m' : Nat} {l' : List Pl} (h1 : f = f') (h2 : m = m') : sameB f m l f' m' l' = decide (l = l') := by
  by_cases h : l = l'
  · rw [decide_eq_true h]; exact decide_eq_true ⟨h1, h2, h⟩
  · rw [decide_eq_false h, sameB_no (.inr (.inr h))]

set_option maxRecDepth 100000 in
set_option maxHeartbeats 4000000 in
theorem refSame_any (f : Int) (m1 : Nat) (u : Value) (l : List Pl) (f' : Int) (m2 : Nat) (v : Value) (k2 : List Pl) (w : World) (hs : PlsAt w u l) (ht : PlsAt w v k2) :
    Calls Try.prog 14 #[planA f m1 u, planA f' m2 v] w (RetB (.bool (sameB f m1 l f' m2 k2)) w) := by
  have HA0 := Lib.hid hs
  have HB0 := Lib.hid ht
  obtain ⟨A, c, rfl, hc1, hc2⟩ := hs.form
  obtain ⟨B, d, rfl, hd1, hd2⟩ := ht.form
  have HNO := Lib.hid (@sameB_no f m1 l f' m2 k2)
  have HSA := Lib.hid (@sameB_of f m1 l f' m2 k2)
  obtain ⟨R, hR⟩ : ∃ R, sameB f m1 l f' m2 k2 = R := ⟨_, rfl⟩
  rw [hR] at HNO HSA ⊢
  obtain ⟨n, hn⟩ : ∃ n, l.length = n := ⟨_, rfl⟩
  obtain ⟨m, hm⟩ : ∃ m, k2.length = m := ⟨_, rfl⟩
  rw [hn] at HA0 hc1 ⊢
  rw [hm] at HB0 hd1 ⊢
  have HN := Lib.hid hn
  have HM := Lib.hid hm
  have hbn : n ≤ 9223372036854775807 := by omega
  obtain ⟨w1, P, hw1, hP, hPl, hb1, hbox⟩ := box_any w #[.int .i64 f, .int .u32 m1, .slice A n c] 25
  obtain ⟨w2, X, hw2, hX, hXl, hb2, hxbox⟩ := box_any w1 #[.int .i64 f', .int .u32 m2, .slice B m d] 25
  have HB2 := Lib.hid (hb1.trans (hb2.mono hb1.size))
  have HPB := Lib.hid (keep_block hbox hb2)
  have HXB := Lib.hid hxbox
  obtain ⟨p0, p1, p2⟩ := three_heads HPB.out
  obtain ⟨q0, q1, q2⟩ := three_heads hxbox
  have HA := Lib.hid (HA0.out.keep HB2.out)
  have HB := Lib.hid (HB0.out.keep HB2.out)
  have mixed : Try.prog.follows .mixedOrders = true := by kernel_rfl
  unfold planA
  clear hs ht hn hm hR hb1 hb2 hbox hxbox
  by_cases h1 : f = f'
  · have e1 : (f == f') = true := by simpa using h1
    have e1' : (f != f') = false := by simpa using h1
    by_cases h2 : m1 = m2
    · have e2 : ((m1 : Int) == (m2 : Int)) = true := by subst h2; simp
      have e2' : ((m1 : Int) != (m2 : Int)) = false := by subst h2; simp
      have HR := Lib.hid (HSA.out h1 h2)
      clear h1 h2
      by_cases hne : n = m
      · subst hne
        have hn2 : ((n : Int) != (n : Int)) = false := by simp
        go_enter Try.func14, Try.ntmps14
        go_wp2_with fail
        clear hw1 hP hw2 hX p0 p1 p2 q0 q1 q2
        go_loopg [5] n (fun g i wr => ∃ k : Nat, k ≤ n ∧ g = n - k ∧ i = .int .i64 k ∧ Hid (l.take k = k2.take k) ∧ Below w2.heap.size w2 wr)
        case atStart => exact ⟨0, Nat.zero_le _, by omega, rfl, rfl, Below.refl _ _⟩
        case round =>
          obtain ⟨k, hk, hg, rfl, HT, hbw⟩ := hrel
          have HG := Lib.hid hg
          have HBW := Lib.hid hbw
          have HBE := Lib.hid (HB2.out.trans (hbw.mono HB2.out.size))
          have HPW := Lib.hid (keep_block HPB.out hbw)
          have HXW := Lib.hid (keep_block HXB.out hbw)
          obtain ⟨p0, p1, p2⟩ := three_heads HPW.out
          obtain ⟨q0, q1, q2⟩ := three_heads HXW.out
          have lP := heap_lt HPW.out
          have lX := heap_lt HXW.out
          clear hg hbw
          by_cases hlt : k < n
          · have hltz : (k : Int) < (n : Int) := by omega
            have hk0 : (0 : Int) ≤ (k : Int) := by omega
            obtain ⟨x, hx⟩ := exP_at (xs := l) (k := k) (by rw [HN.out]; exact hlt)
            obtain ⟨y, hy⟩ := exP_at (xs := k2) (k := k) (by rw [HM.out]; exact hlt)
            obtain ⟨b, off, B1, d1, hAe, hbl, _, ⟨x0, x1, x2, x3⟩, hp1⟩ := (HA.out.keep HBW.out).at_ hx
            obtain ⟨b', off', B2, d2, hBe, hbl', _, ⟨y0, y1, y2, y3⟩, hp2⟩ := (HB.out.keep HBW.out).at_ hy
            subst hAe hBe
            simp only at x0 x1 x2 x3 y0 y1 y2 y3
            have HTN := Lib.hid (fun e => takeP_same HT hx hy e)
            have HDF := Lib.hid (fun e => differP hx hy e)
            have HP1 := Lib.hid hp1
            have HP2 := Lib.hid hp2
            clear hx hy hp1 hp2
            have lb := hbl
            have lb' := hbl'
            obtain ⟨xu, xs, xc, xp⟩ := x
            obtain ⟨yu, ys, yc, yp⟩ := y
            simp only at x0 x1 x2 x3 y0 y1 y2 y3 HP1 HP2
            have HCC := Lib.hid (fun W h h' => refSamePlace_any (.slice B1 xp.length d1) (.slice B2 yp.length d2) ⟨xu, xs, xc, xp⟩ ⟨yu, ys, yc, yp⟩ W h h')
            unfold plA at HCC
            simp only at HCC
            obtain ⟨n1, hn1⟩ : ∃ n1, xp.length = n1 := ⟨_, rfl⟩
            obtain ⟨n2, hn2⟩ : ∃ n2, yp.length = n2 := ⟨_, rfl⟩
            rw [hn1] at x3 HP1 HCC
            rw [hn2] at y3 HP2 HCC
            clear hn1 hn2
            by_cases hxy : (⟨xu, xs, xc, xp⟩ : Pl) = ⟨yu, ys, yc, yp⟩
            · rw [decide_eq_true hxy] at HCC
              have HNX := Lib.hid (HTN.out hxy)
              clear hxy
              go_wp2_with fail
              refine wp_region_held_drew (S := fun w' => w'.cell? ⟨P, 2, none⟩ = some (.slice (some ⟨b, off, none⟩) n c) ∧ w'.cell? ⟨X, 2, none⟩ = some ((.slice (some ⟨b', off', none⟩) n d)) ∧ w'.cell? ⟨b, off + k * 4, none⟩ = some (.int .i64 xu) ∧ w'.cell? ⟨b, off + k * 4 + 1, none⟩ = some (.int .i64 xs) ∧ w'.cell? ⟨b, off + k * 4 + 2, none⟩ = some (.int .i64 xc) ∧ w'.cell? ⟨b, off + k * 4 + 3, none⟩ = some (.slice B1 n1 d1) ∧ w'.cell? ⟨b', off' + k * 4, none⟩ = some (.int .i64 yu) ∧ w'.cell? ⟨b', off' + k * 4 + 1, none⟩ = some (.int .i64 ys) ∧ w'.cell? ⟨b', off' + k * 4 + 2, none⟩ = some (.int .i64 yc) ∧ w'.cell? ⟨b', off' + k * 4 + 3, none⟩ = some (.slice B2 n2 d2)) (by kernel_rfl) ?_ (fun hHeld => ?_)
              · exact ⟨p2, q2, x0, x1, x2, x3, y0, y1, y2, y3⟩
              refine wpAnyH_take (i := 0) (oi := ⟨some 34, _, _, _, _, _⟩) (v := ?_) rfl (by kernel_rfl) (by kernel_rfl) (by kernel_rfl) (fun _ _ _ h => h) (Or.inl ⟨by kernel_rfl, ?_⟩) (by assumption) ?_
              rotate_left
              · (intro w hSw; (try dsimp only at hSw); go_simp; try with_reducible rfl)
              (try simp only [Act.put, List.setIfInBounds_toArray, List.set_cons_zero, List.set_cons_succ])
              refine wpAnyH_take (i := 1) (oi := ⟨some 35, _, _, _, _, _⟩) (v := ?_) rfl (by kernel_rfl) (by kernel_rfl) (by kernel_rfl) (fun _ _ _ h => h) (Or.inl ⟨by kernel_rfl, ?_⟩) (by assumption) ?_
              rotate_left
              · (intro w hSw; (try dsimp only at hSw); go_simp; try with_reducible rfl)
              (try simp only [Act.put, List.setIfInBounds_toArray, List.set_cons_zero, List.set_cons_succ])
              refine wpAnyH_take (i := 2) (oi := ⟨some 36, _, _, _, _, _⟩) (v := ?_) rfl (by kernel_rfl) (by kernel_rfl) (by kernel_rfl) (fun _ _ _ h => h) (Or.inl ⟨by kernel_rfl, ?_⟩) (by assumption) ?_
              rotate_left
              · (intro w hSw; (try dsimp only at hSw); go_simp; try with_reducible rfl)
              (try simp only [Act.put, List.setIfInBounds_toArray, List.set_cons_zero, List.set_cons_succ])
              refine wpAnyH_take (i := 3) (oi := ⟨some 37, _, _, _, _, _⟩) (v := ?_) rfl (by kernel_rfl) (by kernel_rfl) (by kernel_rfl) (fun _ _ _ h => h) (Or.inl ⟨by kernel_rfl, ?_⟩) (by assumption) ?_
              rotate_left
              · (intro w hSw; (try dsimp only at hSw); go_simp; try with_reducible rfl)
              (try simp only [Act.put, List.setIfInBounds_toArray, List.set_cons_zero, List.set_cons_succ])
              refine wpAnyH_take (i := 4) (oi := ⟨some 38, _, _, _, _, _⟩) (v := ?_) rfl (by kernel_rfl) (by kernel_rfl) (by kernel_rfl) (fun _ _ _ h => h) (Or.inl ⟨by kernel_rfl, ?_⟩) (by assumption) ?_
              rotate_left
              · (intro w hSw; (try dsimp only at hSw); go_simp; try with_reducible rfl)
              (try simp only [Act.put, List.setIfInBounds_toArray, List.set_cons_zero, List.set_cons_succ])
              refine wpAnyH_take (i := 5) (oi := ⟨some 39, _, _, _, _, _⟩) (v := ?_) rfl (by kernel_rfl) (by kernel_rfl) (by kernel_rfl) (fun _ _ _ h => h) (Or.inl ⟨by kernel_rfl, ?_⟩) (by assumption) ?_
              rotate_left
              · (intro w hSw; (try dsimp only at hSw); go_simp; try with_reducible rfl)
              (try simp only [Act.put, List.setIfInBounds_toArray, List.set_cons_zero, List.set_cons_succ])
              refine wpAnyH_take (i := 6) (oi := ⟨some 40, _, _, _, _, _⟩) (v := ?_) rfl (by kernel_rfl) (by kernel_rfl) (by kernel_rfl) (fun _ _ _ h => h) (Or.inl ⟨by kernel_rfl, ?_⟩) (by assumption) ?_
              rotate_left
              · (intro w hSw; (try dsimp only at hSw); go_simp; try with_reducible rfl)
              (try simp only [Act.put, List.setIfInBounds_toArray, List.set_cons_zero, List.set_cons_succ])
              refine wpAnyH_take (i := 7) (oi := ⟨some 41, _, _, _, _, _⟩) (v := ?_) rfl (by kernel_rfl) (by kernel_rfl) (by kernel_rfl) (fun _ _ _ h => h) (Or.inl ⟨by kernel_rfl, ?_⟩) (by assumption) ?_
              rotate_left
              · (intro w hSw; (try dsimp only at hSw); go_simp; try with_reducible rfl)
              (try simp only [Act.put, List.setIfInBounds_toArray, List.set_cons_zero, List.set_cons_succ])
              refine wpAnyH_take (i := 8) (oi := ⟨some 42, _, _, _, _, _⟩) (v := ?_) rfl (by kernel_rfl) (by kernel_rfl) (by kernel_rfl) (fun _ _ _ h => h) (Or.inl ⟨by kernel_rfl, ?_⟩) (by assumption) ?_
              rotate_left
              · (intro w hSw; (try dsimp only at hSw); go_simp; try with_reducible rfl)
              (try simp only [Act.put, List.setIfInBounds_toArray, List.set_cons_zero, List.set_cons_succ])
              refine wpAnyH_take (i := 9) (oi := ⟨some 43, _, _, _, _, _⟩) (v := ?_) rfl (by kernel_rfl) (by kernel_rfl) (by kernel_rfl) (fun _ _ _ h => h) (Or.inl ⟨by kernel_rfl, ?_⟩) (by assumption) ?_
              rotate_left
              · (intro w hSw; (try dsimp only at hSw); go_simp; try with_reducible rfl)
              (try simp only [Act.put, List.setIfInBounds_toArray, List.set_cons_zero, List.set_cons_succ])
              refine wpAnyH_ready (rs := [10]) (by kernel_rfl) (by simp) ?_
              refine AllReadyH.cons (o := ⟨some 44, _, _, _, _, _⟩) rfl (fun K hK => ?_) AllReadyH.nil
              rw [if_pos (by kernel_rfl)]
              go_simp
              go_at_call 17; refine (HCC.out _ (HP1.out.keep ((Below.refl _ _).drew)) (HP2.out.keep ((Below.refl _ _).drew))).mono ?_; rintro e wq ⟨rfl, hbr⟩
              refine hK.out _ _ ?_ (fun hHeld => ?_)
              · exact ⟨(hbr.cell (p := ⟨P, 2, none⟩) lP).trans p2, (hbr.cell (p := ⟨X, 2, none⟩) lX).trans q2, (hbr.cell (p := ⟨b, off + k * 4, none⟩) lb).trans x0, (hbr.cell (p := ⟨b, off + k * 4 + 1, none⟩) lb).trans x1, (hbr.cell (p := ⟨b, off + k * 4 + 2, none⟩) lb).trans x2, (hbr.cell (p := ⟨b, off + k * 4 + 3, none⟩) lb).trans x3, (hbr.cell (p := ⟨b', off' + k * 4, none⟩) lb').trans y0, (hbr.cell (p := ⟨b', off' + k * 4 + 1, none⟩) lb').trans y1, (hbr.cell (p := ⟨b', off' + k * 4 + 2, none⟩) lb').trans y2, (hbr.cell (p := ⟨b', off' + k * 4 + 3, none⟩) lb').trans y3⟩
              clear hK K
              (try simp only [Act.put, List.setIfInBounds_toArray, List.set_cons_zero, List.set_cons_succ])
              refine wpAnyH_take (i := 11) (oi := ⟨some 45, _, _, _, _, _⟩) (v := ?_) rfl (by kernel_rfl) (by kernel_rfl) (by kernel_rfl) (fun _ _ _ h => h) (Or.inl ⟨by kernel_rfl, ?_⟩) (by assumption) ?_
              rotate_left
              · (intro w hSw; (try dsimp only at hSw); go_simp; try with_reducible rfl)
              (try simp only [Act.put, List.setIfInBounds_toArray, List.set_cons_zero, List.set_cons_succ])
              refine wpAnyH_done (by kernel_rfl) ?_ _
              have HB5 := Lib.hid (HBW.out.drew.trans (hbr.mono HBW.out.size))
              clear hbr
              go_wp2_with fail
              go_roundg (n - (k + 1))
              case measure => have := HG.out; omega
              case rel => exact ⟨k + 1, by omega, rfl, by go_num, HNX.out, HB5.out⟩
            · rw [decide_eq_false hxy] at HCC
              have E : Hid (R = false) := HR.out.trans (decide_eq_false (HDF.out hxy))
              clear hxy
              go_wp2_with fail
              refine wp_region_held_drew (S := fun w' => w'.cell? ⟨P, 2, none⟩ = some (.slice (some ⟨b, off, none⟩) n c) ∧ w'.cell? ⟨X, 2, none⟩ = some ((.slice (some ⟨b', off', none⟩) n d)) ∧ w'.cell? ⟨b, off + k * 4, none⟩ = some (.int .i64 xu) ∧ w'.cell? ⟨b, off + k * 4 + 1, none⟩ = some (.int .i64 xs) ∧ w'.cell? ⟨b, off + k * 4 + 2, none⟩ = some (.int .i64 xc) ∧ w'.cell? ⟨b, off + k * 4 + 3, none⟩ = some (.slice B1 n1 d1) ∧ w'.cell? ⟨b', off' + k * 4, none⟩ = some (.int .i64 yu) ∧ w'.cell? ⟨b', off' + k * 4 + 1, none⟩ = some (.int .i64 ys) ∧ w'.cell? ⟨b', off' + k * 4 + 2, none⟩ = some (.int .i64 yc) ∧ w'.cell? ⟨b', off' + k * 4 + 3, none⟩ = some (.slice B2 n2 d2)) (by kernel_rfl) ?_ (fun hHeld => ?_)
              · exact ⟨p2, q2, x0, x1, x2, x3, y0, y1, y2, y3⟩
              refine wpAnyH_take (i := 0) (oi := ⟨some 34, _, _, _, _, _⟩) (v := ?_) rfl (by kernel_rfl) (by kernel_rfl) (by kernel_rfl) (fun _ _ _ h => h) (Or.inl ⟨by kernel_rfl, ?_⟩) (by assumption) ?_
              rotate_left
              · (intro w hSw; (try dsimp only at hSw); go_simp; try with_reducible rfl)
              (try simp only [Act.put, List.setIfInBounds_toArray, List.set_cons_zero, List.set_cons_succ])
              refine wpAnyH_take (i := 1) (oi := ⟨some 35, _, _, _, _, _⟩) (v := ?_) rfl (by kernel_rfl) (by kernel_rfl) (by kernel_rfl) (fun _ _ _ h => h) (Or.inl ⟨by kernel_rfl, ?_⟩) (by assumption) ?_
              rotate_left
              · (intro w hSw; (try dsimp only at hSw); go_simp; try with_reducible rfl)
              (try simp only [Act.put, List.setIfInBounds_toArray, List.set_cons_zero, List.set_cons_succ])
              refine wpAnyH_take (i := 2) (oi := ⟨some 36, _, _, _, _, _⟩) (v := ?_) rfl (by kernel_rfl) (by kernel_rfl) (by kernel_rfl) (fun _ _ _ h => h) (Or.inl ⟨by kernel_rfl, ?_⟩) (by assumption) ?_
              rotate_left
              · (intro w hSw; (try dsimp only at hSw); go_simp; try with_reducible rfl)
              (try simp only [Act.put, List.setIfInBounds_toArray, List.set_cons_zero, List.set_cons_succ])
              refine wpAnyH_take (i := 3) (oi := ⟨some 37, _, _, _, _, _⟩) (v := ?_) rfl (by kernel_rfl) (by kernel_rfl) (by kernel_rfl) (fun _ _ _ h => h) (Or.inl ⟨by kernel_rfl, ?_⟩) (by assumption) ?_
              rotate_left
              · (intro w hSw; (try dsimp only at hSw); go_simp; try with_reducible rfl)
              (try simp only [Act.put, List.setIfInBounds_toArray, List.set_cons_zero, List.set_cons_succ])
              refine wpAnyH_take (i := 4) (oi := ⟨some 38, _, _, _, _, _⟩) (v := ?_) rfl (by kernel_rfl) (by kernel_rfl) (by kernel_rfl) (fun _ _ _ h => h) (Or.inl ⟨by kernel_rfl, ?_⟩) (by assumption) ?_
              rotate_left
              · (intro w hSw; (try dsimp only at hSw); go_simp; try with_reducible rfl)
              (try simp only [Act.put, List.setIfInBounds_toArray, List.set_cons_zero, List.set_cons_succ])
              refine wpAnyH_take (i := 5) (oi := ⟨some 39, _, _, _, _, _⟩) (v := ?_) rfl (by kernel_rfl) (by kernel_rfl) (by kernel_rfl) (fun _ _ _ h => h) (Or.inl ⟨by kernel_rfl, ?_⟩) (by assumption) ?_
              rotate_left
              · (intro w hSw; (try dsimp only at hSw); go_simp; try with_reducible rfl)
              (try simp only [Act.put, List.setIfInBounds_toArray, List.set_cons_zero, List.set_cons_succ])
              refine wpAnyH_take (i := 6) (oi := ⟨some 40, _, _, _, _, _⟩) (v := ?_) rfl (by kernel_rfl) (by kernel_rfl) (by kernel_rfl) (fun _ _ _ h => h) (Or.inl ⟨by kernel_rfl, ?_⟩) (by assumption) ?_
              rotate_left
              · (intro w hSw; (try dsimp only at hSw); go_simp; try with_reducible rfl)
              (try simp only [Act.put, List.setIfInBounds_toArray, List.set_cons_zero, List.set_cons_succ])
              refine wpAnyH_take (i := 7) (oi := ⟨some 41, _, _, _, _, _⟩) (v := ?_) rfl (by kernel_rfl) (by kernel_rfl) (by kernel_rfl) (fun _ _ _ h => h) (Or.inl ⟨by kernel_rfl, ?_⟩) (by assumption) ?_
              rotate_left
              · (intro w hSw; (try dsimp only at hSw); go_simp; try with_reducible rfl)
              (try simp only [Act.put, List.setIfInBounds_toArray, List.set_cons_zero, List.set_cons_succ])
              refine wpAnyH_take (i := 8) (oi := ⟨some 42, _, _, _, _, _⟩) (v := ?_) rfl (by kernel_rfl) (by kernel_rfl) (by kernel_rfl) (fun _ _ _ h => h) (Or.inl ⟨by kernel_rfl, ?_⟩) (by assumption) ?_
              rotate_left
              · (intro w hSw; (try dsimp only at hSw); go_simp; try with_reducible rfl)
              (try simp only [Act.put, List.setIfInBounds_toArray, List.set_cons_zero, List.set_cons_succ])
              refine wpAnyH_take (i := 9) (oi := ⟨some 43, _, _, _, _, _⟩) (v := ?_) rfl (by kernel_rfl) (by kernel_rfl) (by kernel_rfl) (fun _ _ _ h => h) (Or.inl ⟨by kernel_rfl, ?_⟩) (by assumption) ?_
              rotate_left
              · (intro w hSw; (try dsimp only at hSw); go_simp; try with_reducible rfl)
              (try simp only [Act.put, List.setIfInBounds_toArray, List.set_cons_zero, List.set_cons_succ])
              refine wpAnyH_ready (rs := [10]) (by kernel_rfl) (by simp) ?_
              refine AllReadyH.cons (o := ⟨some 44, _, _, _, _, _⟩) rfl (fun K hK => ?_) AllReadyH.nil
              rw [if_pos (by kernel_rfl)]
              go_simp
              go_at_call 17; refine (HCC.out _ (HP1.out.keep ((Below.refl _ _).drew)) (HP2.out.keep ((Below.refl _ _).drew))).mono ?_; rintro e wq ⟨rfl, hbr⟩
              refine hK.out _ _ ?_ (fun hHeld => ?_)
              · exact ⟨(hbr.cell (p := ⟨P, 2, none⟩) lP).trans p2, (hbr.cell (p := ⟨X, 2, none⟩) lX).trans q2, (hbr.cell (p := ⟨b, off + k * 4, none⟩) lb).trans x0, (hbr.cell (p := ⟨b, off + k * 4 + 1, none⟩) lb).trans x1, (hbr.cell (p := ⟨b, off + k * 4 + 2, none⟩) lb).trans x2, (hbr.cell (p := ⟨b, off + k * 4 + 3, none⟩) lb).trans x3, (hbr.cell (p := ⟨b', off' + k * 4, none⟩) lb').trans y0, (hbr.cell (p := ⟨b', off' + k * 4 + 1, none⟩) lb').trans y1, (hbr.cell (p := ⟨b', off' + k * 4 + 2, none⟩) lb').trans y2, (hbr.cell (p := ⟨b', off' + k * 4 + 3, none⟩) lb').trans y3⟩
              clear hK K
              (try simp only [Act.put, List.setIfInBounds_toArray, List.set_cons_zero, List.set_cons_succ])
              refine wpAnyH_take (i := 11) (oi := ⟨some 45, _, _, _, _, _⟩) (v := ?_) rfl (by kernel_rfl) (by kernel_rfl) (by kernel_rfl) (fun _ _ _ h => h) (Or.inl ⟨by kernel_rfl, ?_⟩) (by assumption) ?_
              rotate_left
              · (intro w hSw; (try dsimp only at hSw); go_simp; try with_reducible rfl)
              (try simp only [Act.put, List.setIfInBounds_toArray, List.set_cons_zero, List.set_cons_succ])
              refine wpAnyH_done (by kernel_rfl) ?_ _
              have HB5 := Lib.hid (HBE.out.drew.trans (hbr.mono HBE.out.size))
              clear hbr
              go_wp2_with fail
              go_ret
              exact ⟨ret_bool E.out.symm, HB5.out⟩
          · have hltz : ¬ (k : Int) < (n : Int) := by omega
            have E : Hid (R = true) := HR.out.trans (decide_eq_true (show l = k2 by
              have h : l.take k = k2.take k := HT
              rwa [List.take_of_length_le (by rw [HN.out]; omega), List.take_of_length_le (by rw [HM.out]; omega)] at h))
            go_wp2_with fail
            go_ret
            exact ⟨ret_bool E.out.symm, HBE.out⟩
      · have E : Hid (R = false) := HR.out.trans (decide_eq_false (show ¬ l = k2 from fun e => hne (by rw [← HN.out, ← HM.out, e])))
        have hn2 : ((n : Int) != (m : Int)) = true := by simp; omega
        clear hne
        go_enter Try.func14, Try.ntmps14
        go_wp2_with fail
        go_ret
        exact ⟨ret_bool E.out.symm, HB2.out⟩
    · have e2 : ((m1 : Int) == (m2 : Int)) = false := by simp; omega
      have e2' : ((m1 : Int) != (m2 : Int)) = true := by simp; omega
      have E : Hid (R = false) := HNO.out (.inr (.inl h2))
      clear h1 h2
      go_enter Try.func14, Try.ntmps14
      go_wp2_with fail
      go_ret
      exact ⟨ret_bool E.out.symm, HB2.out⟩
  · have e1 : (f == f') = false := by simpa using h1
    have e1' : (f != f') = true := by simpa using h1
    have E : Hid (R = false) := HNO.out (.inl h1)
    clear h1
    go_enter Try.func14, Try.ntmps14
    go_wp2_with fail
    go_ret
    exact ⟨ret_bool E.out.symm, HB2.out⟩
end Go.Proofs.Ytajgebcaobknoaa

/-
  The page's example comes out.
  Conditions: none.
-/
set_option linter.unusedVariables false
set_option linter.unusedSimpArgs false
namespace Go.Proofs.Ytajgebcaobknoaa
open Go.RowKit

theorem lit_spans (W : World) (ps : List Sp) (t : Nat) (hl : ps.length ≤ 100000) : SpansAt (W.alloc (.cells (spansCells ps).toArray t)) (.slice (some ⟨W.heap.size, 0, none⟩) ps.length ps.length) ps := by
  refine spans_of_own (base := 0) (e := t) ?_ (by omega)
  have := World.ownsRow_lit (base := 0) (e := t) (size := 2) W (spansCells ps).toArray ps.length (Nat.zero_le _) (by unfold maxLen; omega) (by simp [spansCells_length])
  simpa using this
def exK : List Pl := [⟨1, 3, 0, []⟩, ⟨2, 1, 1, []⟩]
def exV : List Sp := [(3, 2)]
def exN : List Pl := [⟨1, 3, 0, []⟩, ⟨2, 1, 1, []⟩, ⟨3, 2, 0, [⟨0, 1⟩, ⟨1, 2⟩]⟩]
theorem exK_right : Right 4 3 exK where
  f2 := by decide
  f64 := by decide
  m0 := by decide
  m16 := by decide
  place := by
    intro x hx
    simp only [exK, List.mem_cons, List.not_mem_nil, or_false] at hx
    rcases hx with rfl | rfl
    · exact ⟨by decide +kernel, by decide, by decide, fun _ => by decide +kernel, fun h => absurd rfl h⟩
    · exact ⟨by decide +kernel, by decide, by decide, fun _ => by decide +kernel, fun h => absurd rfl h⟩
  asc := by
    intro i x y hx hy
    have h : i + 1 < exK.length := (List.getElem?_eq_some_iff.1 hy).1
    have h0 : i = 0 := by simp [exK] at h; omega
    subst h0
    simp [exK] at hx hy
    subst hx
    subst hy
    decide
  apart := by decide +kernel
  few := by decide +kernel
  load := by decide +kernel
theorem exK_light : LightL exK := by
  refine ⟨by decide, fun x hx => ?_⟩
  simp only [exK, List.mem_cons, List.not_mem_nil, or_false] at hx
  rcases hx with rfl | rfl <;> exact ⟨⟨⟨by decide, by decide⟩, ⟨by decide, by decide⟩, ⟨by decide, by decide⟩, fun y hy => by cases hy⟩, by decide⟩
theorem ex_goes : ChGoes 4 3 exK exV := ⟨⟨exK_right, by decide +kernel, by decide +kernel⟩, by decide +kernel, by decide +kernel⟩
theorem ex_why : Why19 4 3 exK exV 0 := .inr (.inr (.inr ⟨ex_goes, rfl⟩))
theorem ex_chain : (chT 4 3 exK exV).1 = exN := by
  show (chS 4 3 (exK, 0) (3, 2)).1 = exN
  rw [chS_split (by decide +kernel)]
  show addU exK (splP 4 3 exK 0 (3, 2)) = exN
  unfold splP
  rw [pcsA_eq]
  decide +kernel
theorem ex_found : findU exN 3 = some ⟨3, 2, 0, [⟨0, 1⟩, ⟨1, 2⟩]⟩ := by decide +kernel
theorem ex_room : roomN 4 3 exK 1 = 3 := by decide +kernel
theorem ex_ints : IntsS exV := by
  intro s hs
  simp [exV] at hs
  subst hs
  exact ⟨by decide, by decide⟩

set_option maxRecDepth 100000 in
set_option maxHeartbeats 4000000 in
theorem awake_any (w : World) : Calls Try.prog 7 #[] w (RetB (.bool true) w) := by
  obtain ⟨w0, L, hw0, hL, hLl, hb0, hlb⟩ := box_any w #[.int .i64 1, .int .i64 3, .int .i64 0, .slice none 0 0, .int .i64 2, .int .i64 1, .int .i64 1, .slice none 0 0] 41
  have hpl : PlsAt w0 (.slice (some ⟨L, 0, none⟩) 2 2) exK := by
    refine ⟨[(.slice none 0 0, ⟨1, 3, 0, []⟩), (.slice none 0 0, ⟨2, 1, 1, []⟩)], rfl, some ⟨L, 0, none⟩, 2, rfl, Nat.le_refl _, by decide, fun _ => ⟨L, 0, rfl, heap_lt hlb, trivial, fun j p hp => ?_⟩, fun p hp => ?_⟩
    · rcases j with _ | _ | j
      · simp at hp
        subst hp
        refine ⟨?_, ?_, ?_, ?_⟩ <;> simp [World.cell?, hlb]
      · simp at hp
        subst hp
        refine ⟨?_, ?_, ?_, ?_⟩ <;> simp [World.cell?, hlb]
      · simp at hp
    · simp at hp
      rcases hp with rfl | rfl <;> exact PcsIn.nil _ _
  obtain ⟨w1, P, hw1, hP, hPl, hb1, hpb⟩ := box_any w0 #[.int .i64 0, .int .u32 0, .slice none 0 0] 25
  have HPB := Lib.hid hpb
  obtain ⟨w2, hw2⟩ : ∃ w2, w1.setRow P #[.int .i64 4, .int .u32 3, .slice (some ⟨L, 0, none⟩) 2 2] = w2 := ⟨_, rfl⟩
  have hb2 : Below w0.heap.size w0 w2 := by rw [← hw2]; exact below_row hb1 (by omega) _
  have HB2 := Lib.hid (hb0.trans (hb2.mono hb0.size))
  have HP2 : Hid (w2.heap[P]? = some (.cells #[.int .i64 4, .int .u32 3, .slice (some ⟨L, 0, none⟩) 2 2] 25 (0, 0))) := Lib.hid (by rw [← hw2]; exact setRow_heap _ _ _ _ _ _ hpb)
  have HPL2 := Lib.hid (hpl.keep hb2)
  obtain ⟨q0, q1, q2⟩ := three_heads HP2.out
  obtain ⟨w3, S, hw3, hS, hSl, hb3, hsb⟩ := box_any w2 #[.int .i64 3, .int .i64 2] 45
  have HB3 := Lib.hid (HB2.out.trans (hb3.mono HB2.out.size))
  have HP3 := Lib.hid (keep_block HP2.out hb3)
  have HPL3 := Lib.hid (HPL2.out.keep hb3)
  have HW3 : Hid (SpansAt w3 (.slice (some ⟨S, 0, none⟩) 1 1) exV) := Lib.hid (by
    have := lit_spans w2 exV 45 (by decide)
    rw [hS] at this
    rw [← hw3]
    exact this)
  have HSP := Lib.hid (split_any 4 3 (.slice (some ⟨L, 0, none⟩) 2 2) exK (.slice (some ⟨S, 0, none⟩) 1 1) exV w3 HPL3.out exK_light HW3.out ex_ints (by decide) (by decide))
  unfold planA at HSP
  clear hb0 hb1 hb2 hb3 hlb hpb hsb hpl
  go_enter Try.func7, Try.ntmps7
  go_wp2_with (refine wpList_store_row rfl _ _ _ rfl P #[.int .i64 4, .int .u32 3, .slice (some ⟨L, 0, none⟩) 2 2] rfl rfl 25 _ HPB.out (Try.sizePn _ _ _) rfl (one3 _ _ _ _ _) ?_)
  refine HSP.out.mono ?_
  rintro e w4 ⟨E, hwhy, hb4, hcase⟩
  have hE : E = 0 := hwhy.unique ex_why
  obtain ⟨_, v4, rfl, hpl4⟩ := hcase.resolve_right fun h => h.1 hE
  rw [ex_chain] at hpl4
  have HB4 := Lib.hid (HB3.out.trans (hb4.mono HB3.out.size))
  have HP4 := Lib.hid (keep_block HP3.out hb4)
  have HPLK := Lib.hid (HPL3.out.keep hb4)
  obtain ⟨A4, d4, rfl, _, _⟩ := hpl4.form
  have hlen : exN.length = 3 := rfl
  rw [hlen] at hpl4 ⊢
  obtain ⟨w5, Q, hw5, hQ, hQl, hb5, hqb⟩ := box_any w4 #[.int .i64 0, .int .u32 0, .slice none 0 0] 25
  have HQB := Lib.hid hqb
  obtain ⟨w6, hw6⟩ : ∃ w6, w5.setRow Q #[.int .i64 4, .int .u32 3, .slice A4 3 d4] = w6 := ⟨_, rfl⟩
  have hb6 : Below w4.heap.size w4 w6 := by rw [← hw6]; exact below_row hb5 (by omega) _
  have HB6 := Lib.hid (HB4.out.trans (hb6.mono HB4.out.size))
  have HQ6 : Hid (w6.heap[Q]? = some (.cells #[.int .i64 4, .int .u32 3, .slice A4 3 d4] 25 (0, 0))) := Lib.hid (by rw [← hw6]; exact setRow_heap _ _ _ _ _ _ hqb)
  have HP6 := Lib.hid (keep_block HP4.out hb6)
  have HPLK6 := Lib.hid (HPLK.out.keep hb6)
  have HPL6 := Lib.hid (hpl4.any.keep hb6)
  have HFI := Lib.hid (refFind_any 4 3 (.slice A4 3 d4) exN 3 w6 HPL6.out (by decide))
  rw [ex_found] at HFI
  unfold RetFind planA plA at HFI
  obtain ⟨p0, p1, p2⟩ := three_heads HQ6.out
  clear hb4 hb5 hb6 hpl4 hqb hwhy hE hw1 hP hw2 hw3 hS q0 q1 q2 hw0 hL
  go_wp2_with (refine wpList_store_row rfl _ _ _ rfl Q #[.int .i64 4, .int .u32 3, .slice A4 3 d4] rfl rfl 25 _ HQB.out (Try.sizePn _ _ _) rfl (one3 _ _ _ _ _) ?_)
  refine HFI.out.mono ?_
  rintro e w7 ⟨vx, rfl, hx, hb7⟩
  have hx : PcsAt w7 vx [⟨0, 1⟩, ⟨1, 2⟩] := hx
  have HB7 := Lib.hid (HB6.out.trans (hb7.mono HB6.out.size))
  have HP7 := Lib.hid (keep_block HP6.out hb7)
  have HPLK7 := Lib.hid (HPLK6.out.keep hb7)
  obtain ⟨Ax, dx, rfl⟩ := hx.form
  obtain ⟨w8, X, hw8, hX, hXl, hb8, hxb⟩ := box_any w7 #[.int .i64 3, .int .i64 2, .int .i64 0, .slice Ax 2 dx] 41
  obtain ⟨w9, S9, hw9, hS9, hSl9, hb9, hsb9⟩ := box_any w8 #[.int .i64 0, .int .u64 1, .int .i64 1, .int .u64 2] 51
  have HB9 := Lib.hid (HB7.out.trans ((hb8.mono HB7.out.size).trans (hb9.mono (Nat.le_trans HB7.out.size hb8.size))))
  have HP9 := Lib.hid (keep_block (keep_block HP7.out hb8) hb9)
  have HPLK9 := Lib.hid ((HPLK7.out.keep hb8).keep hb9)
  have hpc : PcsAt w9 (.slice (some ⟨S9, 0, none⟩) 2 2) [⟨0, 1⟩, ⟨1, 2⟩] := by
    refine ⟨some ⟨S9, 0, none⟩, 2, rfl, Nat.le_refl _, by decide, fun _ => ⟨S9, 0, rfl, heap_lt hsb9, trivial, fun j y hy => ?_⟩⟩
    rcases j with _ | _ | j
    · simp at hy
      subst hy
      refine ⟨?_, ?_⟩ <;> simp [World.cell?, hsb9]
    · simp at hy
      subst hy
      refine ⟨?_, ?_⟩ <;> simp [World.cell?, hsb9]
    · simp at hy
  have HSM := Lib.hid (refSamePlace_any (.slice Ax 2 dx) (.slice (some ⟨S9, 0, none⟩) 2 2) ⟨3, 2, 0, [⟨0, 1⟩, ⟨1, 2⟩]⟩ ⟨3, 2, 0, [⟨0, 1⟩, ⟨1, 2⟩]⟩ w9 ((hx.keep hb8).keep hb9) hpc)
  rw [show decide ((⟨3, 2, 0, [⟨0, 1⟩, ⟨1, 2⟩]⟩ : Pl) = ⟨3, 2, 0, [⟨0, 1⟩, ⟨1, 2⟩]⟩) = true from decide_eq_true rfl] at HSM
  unfold plA at HSM
  obtain ⟨x0, x1, x2, x3⟩ := four_heads hxb
  clear hb7 hb8 hb9 hx hpc hsb9 p0 p1 p2 hw5 hQ
  simp only [Option.getD, Option.isSome]
  go_wp2_with fail
  refine HSM.out.mono ?_
  rintro e w10 ⟨rfl, hb10⟩
  have HB10 := Lib.hid (HB9.out.trans (hb10.mono HB9.out.size))
  have HP10 := Lib.hid (keep_block HP9.out hb10)
  have HPLK10 := Lib.hid (HPLK9.out.keep hb10)
  have HRO := Lib.hid (chRooms_any 4 3 (.slice (some ⟨L, 0, none⟩) 2 2) exK w10 HPLK10.out exK_light (by decide))
  unfold planA at HRO
  obtain ⟨q0, q1, q2⟩ := three_heads HP10.out
  clear hb10 hw8 hX hw9 hS9 hxb x0 x1 x2 x3
  go_wp2_with fail
  refine HRO.out.mono ?_
  rintro e w11 ⟨hb11, hro⟩
  obtain ⟨_, R1, rfl, hR1, hrow1⟩ := hro.resolve_right fun h => h.1 exK_right
  have HB11 := Lib.hid (HB10.out.trans (hb11.mono HB10.out.size))
  have HP11 := Lib.hid (keep_block HP10.out hb11)
  have HRO2 := Lib.hid (chRooms_any 4 3 (.slice (some ⟨L, 0, none⟩) 2 2) exK w11 (HPLK10.out.keep hb11) exK_light (by decide))
  unfold planA at HRO2
  clear q0 q1 q2 hb11 hro hrow1 hR1
  obtain ⟨q0, q1, q2⟩ := three_heads HP11.out
  go_wp2_with fail
  refine HRO2.out.mono ?_
  rintro e w12 ⟨hb12, hro⟩
  obtain ⟨_, R2, rfl, hR2, hrow2⟩ := hro.resolve_right fun h => h.1 exK_right
  have HB12 := Lib.hid (HB11.out.trans (hb12.mono HB11.out.size))
  have g0 := RowI.cell hrow2 (show 1 < 16 by omega)
  have g0' : w12.cell? ⟨R2, 1, none⟩ = some (.int .i64 3) := by
    rw [g0]
    show some (Value.int .i64 (roomN 4 3 exK 1)) = _
    rw [ex_room]
  clear q0 q1 q2 hb12 hro hrow2 g0
  go_wp2_with fail
  go_ret
  exact ⟨rfl, HB12.out⟩
end Go.Proofs.Ytajgebcaobknoaa

/-
  An argument that is a slice of wants, of whatever length; its first ones.
  Conditions: none.
-/
set_option linter.unusedVariables false
namespace Go.Proofs.Ytajgebcaobknoaa
open Go.RowKit

/-- An argument: it may be of any length. -/
def ArgAt (W : World) (v : Value) (ps : List Sp) : Prop :=
  ∃ A c, v = .slice A ps.length c ∧ ps.length ≤ c ∧ c ≤ 9223372036854775807 ∧ (A = none → c = 0) ∧
    (0 < ps.length → ∃ b off, A = some ⟨b, off, none⟩ ∧ b < W.heap.size ∧ ∀ (j : Nat) (p : Sp), ps[j]? = some p → PairAt W b (off + j * 2) p)
theorem ArgAt.keep {W W' : World} {v : Value} {ps : List Sp} (h : ArgAt W v ps) (hb : Below W.heap.size W W') : ArgAt W' v ps := by
  obtain ⟨A, c, h1, h2, h3, h4, h5⟩ := h
  refine ⟨A, c, h1, h2, h3, h4, fun hn => ?_⟩
  obtain ⟨b, off, e, hlt, hc⟩ := h5 hn
  exact ⟨b, off, e, Nat.lt_of_lt_of_le hlt hb.size, fun j x hx => (hc j x hx).keep hb hlt⟩
/-- Its first ones. -/
theorem ArgAt.cut {W : World} {A : Option Addr} {n c : Nat} {ps : List Sp} (h : ArgAt W (.slice A n c) ps) (N : Nat) (hN : N ≤ 2000000) : SpansAt W (.slice A (min n N) c) (ps.take N) := by
  obtain ⟨A', c', h1, h2, h3, h4, h5⟩ := h
  injection h1 with e1 e2 e3
  subst e1 e2 e3
  have hl : (ps.take N).length = min ps.length N := by rw [List.length_take, Nat.min_comm]
  have hmin : min ps.length N ≤ ps.length := Nat.min_le_left _ _
  have hmin2 : min ps.length N ≤ N := Nat.min_le_right _ _
  refine ⟨A, c, by rw [hl], by omega, by omega, h3, fun hn => ?_⟩
  obtain ⟨b, off, e, hlt, hc⟩ := h5 (by omega)
  refine ⟨b, off, e, hlt, fun j p hj => hc j p ?_⟩
  rw [List.getElem?_take] at hj
  split at hj
  · exact hj
  · cases hj
end Go.Proofs.Ytajgebcaobknoaa

/-
  Has a plan not too much?
  Conditions: the slice reads as places.
-/
set_option linter.unusedVariables false
namespace Go.Proofs.Ytajgebcaobknoaa
open Go.RowKit

/-- What Light tells. -/
def Lit (l : List Pl) : Prop := (∀ (k : Nat) (x : Pl), k < 300 → l[k]? = some x → x.ps.length ≤ 20) ∧ l.length ≤ 60
theorem Lit.light {l : List Pl} (h : Lit l) (ho : ∀ x ∈ l, PlOk x) : LightL l :=
  ⟨by have := h.2; omega, fun x hx => ⟨ho x hx, by
    obtain ⟨k, hk⟩ := List.mem_iff_getElem?.1 hx
    have h1 := (List.getElem?_eq_some_iff.1 hk).1
    have h2 := h.2
    have := h.1 k x (by omega) hk
    omega⟩⟩

set_option maxRecDepth 100000 in
set_option maxHeartbeats 2000000 in
theorem light_any (f : Int) (m : Nat) (v : Value) (l : List Pl) (w : World) (h : PlsAt w v l) :
    Calls Try.prog 6 #[planA f m v] w (RetIff (Lit l) w) := by
  obtain ⟨A, cA, rfl, hlc, hcm⟩ := h.form
  have HL := Lib.hid h
  obtain ⟨w1, P, hw1, hP, hPl, hb1, hbox⟩ := box_any w #[.int .i64 f, .int .u32 m, .slice A l.length cA] 25
  obtain ⟨n, hn⟩ : ∃ n, l.length = n := ⟨_, rfl⟩
  rw [hn] at HL hlc hw1 hbox ⊢
  have HN := Lib.hid hn
  have HB1 := Lib.hid hb1
  have HBOX := Lib.hid hbox
  obtain ⟨r0, r1, r2⟩ := three_heads hbox
  clear h hn hb1 hbox
  unfold planA
  go_enter Try.func6, Try.ntmps6
  go_wp2_with fail
  clear hw1 hP r0 r1 r2
  go_loopg [3] n (fun gg s3 wr => ∃ k : Nat, k ≤ n ∧ gg = n - k ∧ s3 = .int .i64 k ∧ Hid (∀ (i : Nat) (x : Pl), i < k → l[i]? = some x → x.ps.length ≤ 20) ∧ k ≤ 300 ∧ Below w1.heap.size w1 wr)
  case atStart => exact ⟨0, Nat.zero_le _, by omega, rfl, fun i x hi => absurd hi (by omega), by omega, Below.refl _ w1⟩
  case round =>
    obtain ⟨k, hk, hg, rfl, HA, hk3, hbw⟩ := hrel
    have HBW := Lib.hid hbw
    have HB := Lib.hid (HB1.out.trans (hbw.mono HB1.out.size))
    have HG := Lib.hid hg
    have hPl2 : P < wr.heap.size := Nat.lt_of_lt_of_le hPl hbw.size
    have HBX := Lib.hid ((hbw.block P hPl).trans HBOX.out)
    obtain ⟨r0, r1, r2⟩ := three_heads HBX.out
    have HLR := Lib.hid (HL.out.keep HB.out)
    clear hbw hg
    by_cases hlt : k < n
    · by_cases hl3 : k < 300
      · have hl3z : (k : Int) < 300 := by omega
        have hk0 : (0 : Int) ≤ (k : Int) := by omega
        have hltz : (k : Int) < (n : Int) := by omega
        obtain ⟨x, hx⟩ := exP_at (xs := l) (k := k) (by rw [HN.out]; exact hlt)
        obtain ⟨b, off, B, d, hA, hbl, _, ⟨c0, c1, c2, c3⟩, hps⟩ := HLR.out.at_ hx
        subst hA
        simp only at c0 c1 c2 c3
        have HX := Lib.hid hx
        have HPS := Lib.hid hps
        clear hx hps
        by_cases hp : x.ps.length ≤ 20
        · have hpz : decide ((20 : Int) < (x.ps.length : Int)) = false := decide_eq_false (by omega)
          have HE : Hid (∀ (i : Nat) (z : Pl), i < k + 1 → l[i]? = some z → z.ps.length ≤ 20) := Lib.hid (fun i z hi hz => by
            rcases Nat.lt_succ_iff_lt_or_eq.1 hi with h | rfl
            · exact HA i z h hz
            · rw [HX.out] at hz
              cases hz
              exact hp)
          go_wp2_with fail
          go_roundg (n - (k + 1))
          case measure => have := HG.out; omega
          case rel => exact ⟨k + 1, by omega, rfl, by go_num, HE.out, by omega, HBW.out⟩
        · have hpz : (20 : Int) < (x.ps.length : Int) := by omega
          have HNO := Lib.hid (show ¬ Lit l from fun h => hp (h.1 k x hl3 HX.out))
          go_wp2_with fail
          go_ret
          exact RetIff.no HNO.out HB.out
      · have hltz : (k : Int) < (n : Int) := by omega
        have hl3z : ¬ (k : Int) < 300 := by omega
        have hnz : decide ((n : Int) ≤ 60) = false := decide_eq_false (by omega)
        have HNO := Lib.hid (show ¬ Lit l from fun h => by have := h.2; have := HN.out; omega)
        go_wp2_with fail
        go_ret
        exact RetIff.no HNO.out HB.out
    · have hltz : ¬ (k : Int) < (n : Int) := by omega
      by_cases hn6 : n ≤ 60
      · have hnz : (n : Int) ≤ 60 := by omega
        have HYE := Lib.hid (show Lit l from ⟨fun i x _ hx => HA i x (by have := (List.getElem?_eq_some_iff.1 hx).1; have := HN.out; omega) hx, by rw [HN.out]; exact hn6⟩)
        go_wp2_with fail
        go_ret
        exact RetIff.yes HYE.out HB.out
      · have hnz : decide ((n : Int) ≤ 60) = false := decide_eq_false (by omega)
        have HNO := Lib.hid (show ¬ Lit l from fun h => by have := h.2; have := HN.out; omega)
        go_wp2_with fail
        go_ret
        exact RetIff.no HNO.out HB.out
end Go.Proofs.Ytajgebcaobknoaa

/-
  Check of the document.
  Conditions: the slice reads as wants.
-/
set_option linter.unusedVariables false
namespace Go.Proofs.Ytajgebcaobknoaa
open Go.RowKit

set_option maxRecDepth 100000 in
set_option maxHeartbeats 4000000 in
theorem refCheck_any (f : Int) (v : Value) (ps : List Sp) (w : World) (h : SpansAt w v ps) (hi : IntsS ps) : Calls Try.prog 60 #[.int .i64 f, v] w (RetB (.int .i64 (chkT f ps)) w) := by
  by_cases hf1 : f < 2
  · have HR : Hid (chkT f ps = 1) := if_pos (.inl hf1)
    obtain ⟨A, c, rfl, _⟩ := h
    go_enter Try.func60, Try.ntmps60
    go_wp2
    go_ret
    exact ⟨by rw [HR.out]; rfl, Below.refl _ _⟩
  · by_cases hf2 : 64 < f
    · have HR : Hid (chkT f ps = 1) := if_pos (.inr hf2)
      obtain ⟨A, c, rfl, _⟩ := h
      go_enter Try.func60, Try.ntmps60
      go_wp2
      go_ret
      exact ⟨by rw [HR.out]; rfl, Below.refl _ _⟩
    · obtain ⟨R, hR⟩ : ∃ R, chkT f ps = R := ⟨_, rfl⟩
      have HR : Hid (chkL f [] ps = R) := by rw [← hR]; exact (if_neg (by omega)).symm
      rw [hR]
      obtain ⟨A, c, rfl, hc1, hlen, hc2, hat⟩ := h
      have HAT := Lib.hid hat
      have HI := Lib.hid hi
      have HIS := Lib.hid (fun u W => is_any u W)
      generalize hn : ps.length = n at *
      have HN := Lib.hid hn
      clear hat hn hR hi
      go_enter Try.func60, Try.ntmps60
      go_wp2_with fail
      go_loopg [5, 6] n (fun gg s5 _ wr => ChkRel n f ps R w gg s5 wr)
      case atStart => exact ⟨0, Nat.zero_le _, by omega, rfl, Below.refl _ _, HR.out⟩
      case round =>
        obtain ⟨i, hin, hgg, rfl, hbw, hchk⟩ := hrel
        have HG := Lib.hid hgg
        have HB := Lib.hid hbw
        have HK := Lib.hid hchk
        have hsz := hbw.size
        clear hgg hbw hchk
        by_cases hlt : i < n
        · have hltz : (i : Int) < (n : Int) := by omega
          obtain ⟨b, off, hA, hbl, hcell⟩ := HAT.out (by omega)
          subst hA
          obtain ⟨y, hy⟩ := ex_at (xs := ps) (k := i) (by rw [HN.out]; exact hlt)
          obtain ⟨c1, c2⟩ := (hcell i y hy).keep HB.out hbl
          have HCELL := Lib.hid hcell
          have HY := Lib.hid hy
          have his := fun W => HIS.out y.1 W
          cases hu : isU y.1
          · have HU : Hid (∀ W, Calls Try.prog 42 #[.int .i64 y.1] W (Ret (.bool false) W)) := by
              intro W; have := his W; rw [hu] at this; exact this
            have HRN : Hid (R = 20) := by
              have e := chkE_id (f := f) (b := ps.take i) hu
              exact (chk_bad hy (by rw [e]; decide) HK.out).trans e
            obtain ⟨y1, y2⟩ := y
            simp only at c1 c2 HU
            clear hcell hy his hu
            go_wp2_with (go_at_call 42; refine (HU.out _).mono ?_; rintro e w' ⟨rfl, rfl⟩)
            go_ret
            exact ⟨by rw [HRN.out]; rfl, HB.out⟩
          · have HU : Hid (∀ W, Calls Try.prog 42 #[.int .i64 y.1] W (Ret (.bool true) W)) := by
              intro W; have := his W; rw [hu] at this; exact this
            by_cases hs1 : y.2 < 1
            · have HRN : Hid (R = 21) := by
                have e := chkE_share (f := f) (b := ps.take i) hu (.inl hs1)
                exact (chk_bad hy (by rw [e]; decide) HK.out).trans e
              obtain ⟨y1, y2⟩ := y
              simp only at c1 c2 HU hs1
              clear hcell hy his hu
              go_wp2_with (go_at_call 42; refine (HU.out _).mono ?_; rintro e w' ⟨rfl, rfl⟩)
              go_ret
              exact ⟨by rw [HRN.out]; rfl, HB.out⟩
            · by_cases hs2 : f < y.2
              · have HRN : Hid (R = 21) := by
                  have e := chkE_share (f := f) (b := ps.take i) hu (.inr hs2)
                  exact (chk_bad hy (by rw [e]; decide) HK.out).trans e
                obtain ⟨y1, y2⟩ := y
                simp only at c1 c2 HU hs1 hs2
                clear hcell hy his hu
                go_wp2_with (go_at_call 42; refine (HU.out _).mono ?_; rintro e w' ⟨rfl, rfl⟩)
                go_ret
                exact ⟨by rw [HRN.out]; rfl, HB.out⟩
              · have HOK : Hid ((∀ (j : Nat) (s : Sp), j < i → ps[j]? = some s → s.1 ≠ y.1) → chkL f (ps.take (i + 1)) (ps.drop (i + 1)) = R) := fun hall =>
                  chk_ok hy (chkE_ok hu hs1 hs2 (any_unit fun j s hj => by
                    rw [List.getElem?_take] at hj
                    split at hj
                    · exact hall j s (by assumption) hj
                    · cases hj)) HK.out
                have HBAD : Hid (∀ (j : Nat) (s : Sp), j < i → ps[j]? = some s → s.1 = y.1 → R = 11) := fun j s hj hs he => by
                  have e := chkE_two (f := f) (b := ps.take i) hu hs1 hs2 (any_unit_yes (j := j) (s := s) (by rw [List.getElem?_take, if_pos hj]; exact hs) he)
                  exact (chk_bad hy (by rw [e]; decide) HK.out).trans e
                obtain ⟨y1, y2⟩ := y
                simp only at c1 c2 HU hs1 hs2
                clear hcell hy his hu c1 c2
                obtain ⟨c1, c2⟩ := (HCELL.out i (y1, y2) HY.out).keep HB.out hbl
                simp only at c1 c2
                go_wp2_with (go_at_call 42; refine (HU.out _).mono ?_; rintro e w' ⟨rfl, rfl⟩)
                clear c1 c2
                go_loopg [6] i (fun gg s6 wq => ∃ k : Nat, k ≤ i ∧ gg = i - k ∧ s6 = .int .i64 k ∧ Below w.heap.size w wq ∧ ∀ (j : Nat) (s : Sp), j < k → ps[j]? = some s → s.1 ≠ y1)
                case atStart => exact ⟨0, Nat.zero_le _, by omega, rfl, HB.out, fun j s hj => absurd hj (Nat.not_lt_zero _)⟩
                case round =>
                  obtain ⟨k, hki, hgk, rfl, hbk, hall⟩ := hrel
                  have HGK := Lib.hid hgk
                  have HBK := Lib.hid hbk
                  have HALL := Lib.hid hall
                  clear hgk hbk hall
                  obtain ⟨c1, c2⟩ := (HCELL.out i (y1, y2) HY.out).keep HBK.out hbl
                  simp only at c1 c2
                  by_cases hk : k < i
                  · have hkz : (k : Int) < (i : Int) := by omega
                    have hkn : (k : Int) < (n : Int) := by omega
                    obtain ⟨z, hz⟩ := ex_at (xs := ps) (k := k) (by rw [HN.out]; omega)
                    obtain ⟨d1, d2⟩ := (HCELL.out k z hz).keep HBK.out hbl
                    by_cases he : z.1 = y1
                    · have HRN := Lib.hid (HBAD.out k z hk hz he)
                      obtain ⟨z1, z2⟩ := z
                      simp only at d1 d2 he
                      have hq : (z1 == y1) = true := by simpa using he
                      clear hz he
                      go_wp2_with fail
                      go_quiet (fail)
                      go_wp2
                      go_ret
                      exact ⟨by rw [HRN.out]; rfl, below_drewN HBK.out _⟩
                    · have HALL2 : Hid (∀ (j : Nat) (s : Sp), j < k + 1 → ps[j]? = some s → s.1 ≠ y1) := fun j s hj hs => by
                        by_cases e : j = k
                        · subst e
                          rw [hz] at hs
                          cases hs
                          exact he
                        · exact HALL.out j s (by omega) hs
                      obtain ⟨z1, z2⟩ := z
                      simp only at d1 d2 he
                      have hq : (z1 == y1) = false := by simpa using he
                      clear hz he
                      go_wp2_with fail
                      go_quiet (fail)
                      go_wp2_with fail
                      go_roundg (i - (k + 1))
                      case measure => have := HGK.out; omega
                      case rel => exact ⟨k + 1, by omega, rfl, by go_num, below_drewN HBK.out _, HALL2.out⟩
                  · have hke : k = i := by omega
                    subst hke
                    have hkz : ¬ (k : Int) < (k : Int) := by omega
                    have HT2 := Lib.hid (HOK.out HALL.out)
                    go_wp2_with fail
                    go_roundg (n - (k + 1))
                    case measure => have := HG.out; omega
                    case rel => exact ⟨k + 1, by omega, rfl, by go_num, HBK.out, HT2.out⟩
        · have hin' : i = n := by omega
          subst hin'
          have hltz : ¬ (i : Int) < (i : Int) := by omega
          have HRN : Hid (R = 0) := by
            have := HK.out
            rw [List.drop_eq_nil_of_le (by rw [HN.out]; exact Nat.le_refl _)] at this
            exact this.symm
          go_wp2
          go_ret
          exact ⟨by rw [HRN.out]; rfl, HB.out⟩
end Go.Proofs.Ytajgebcaobknoaa
