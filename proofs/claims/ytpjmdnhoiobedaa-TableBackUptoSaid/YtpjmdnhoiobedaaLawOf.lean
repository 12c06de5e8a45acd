/-
  The law of tables: TableOf.
  Conditions: the slice reads as places; the numbers are of their kinds.
-/
import Derived.Test.YtpjmdnhoiobedaaAwake
import Derived.Test.YtpjmdnhoiobedaaLight
import Derived.Test.YtpjmdnhoiobedaaRight
set_option linter.unusedVariables false
set_option linter.unusedSimpArgs false
namespace Go.Proofs.Ytpjmdnhoiobedaa
open Go.RowKit

theorem tabsOf_le (n m : Nat) (l : List Pl) : (tabsOf n m l).length ≤ 16 := by
  unfold tabsOf
  rw [List.length_map, ticksI_length]
  exact cntT_le _ _

set_option maxRecDepth 100000 in
set_option maxHeartbeats 8000000 in
theorem of_law (f : Int) (m : Nat) (v : Value) (l : List Pl) (w : World) (h : PlsAt w v l) (ho : ∀ x ∈ l, PlOk x) (hm : m < 4294967296) :
    Calls Try.prog 3 #[planA f m v] w (RetB (.bool true) w) := by
  obtain ⟨w1, P, hw1, hP, hPl, hb1, hbox⟩ := box_any w #[.int .i64 f, .int .u32 m, v] 25
  have HB1 := Lib.hid hb1
  have HH : Hid (∀ W, Below w1.heap.size w1 W → PlsAt W v l) := Lib.hid (fun W hk => h.keep (HB1.out.trans (hk.mono HB1.out.size)))
  have HS : Hid (∀ W, Below w1.heap.size w1 W → W.cell? ⟨P, 0, none⟩ = some (.int .i64 f) ∧ W.cell? ⟨P, 1, none⟩ = some (.int .u32 m) ∧ W.cell? ⟨P, 2, none⟩ = some v) := Lib.hid (fun W hk => three_heads (keep_block hbox hk))
  have HLI := Lib.hid (fun W (hk : Below w1.heap.size w1 W) => calls_iff (light_any f m v l W (HH.out W hk)))
  have HRI := Lib.hid (fun (hL : LightL l) W (hk : Below w1.heap.size w1 W) => calls_iff (right_any f m v l W (HH.out W hk) hL hm))
  have HAW := Lib.hid (fun W => awake_any W)
  have HK1 := Lib.hid (Below.refl w1.heap.size w1)
  unfold planA at HLI HRI ⊢
  obtain ⟨r0, r1, r2⟩ := HS.out _ HK1.out
  clear h hb1 hbox
  have mixed : Try.prog.follows .mixedOrders = true := by kernel_rfl
  by_cases hlit : Lit l
  · have hL := hlit.light ho
    have HYL := Lib.hid (fun W hk => (HLI.out W hk).1 hlit)
    by_cases hr : Right f m l
    · obtain ⟨n, rfl⟩ : ∃ n : Nat, f = (n : Int) := ⟨f.toNat, by have := hr.f2; omega⟩
      have hn64 : n ≤ 64 := by have := hr.f64; omega
      have HYR := Lib.hid (fun W hk => (HRI.out hL W hk).1 hr)
      have HOF := Lib.hid (fun W (hk : Below w1.heap.size w1 W) => of_right n m v l W (HH.out W hk) hL hr)
      have HRO := Lib.hid (fun W (hk : Below w1.heap.size w1 W) => refOf_any n m v l W (HH.out W hk) hL hm hn64)
      have htl := tabsOf_le n m l
      generalize tabsOf n m l = tbs at HOF HRO htl
      unfold planA at HOF HRO
      clear HRI HLI hlit hr hL ho hn64
      go_enter Try.func3, Try.ntmps3
      go_wp2_with fail
      refine (HYL.out _ HK1.out).mono ?_
      rintro e w2 ⟨rfl, hb2⟩
      have HK2 := Lib.hid (HK1.out.trans (hb2.mono HK1.out.size))
      clear r0 r1 r2
      obtain ⟨r0, r1, r2⟩ := HS.out _ HK2.out
      clear hb2
      go_wp2_with fail
      refine (HOF.out _ HK2.out).mono ?_
      rintro e w3 ⟨va, rfl, hta, hb3⟩
      have HK3 := Lib.hid (HK2.out.trans (hb3.mono HK2.out.size))
      have HTA3 := Lib.hid hta
      clear hb3
      clear r0 r1 r2
      obtain ⟨r0, r1, r2⟩ := HS.out _ HK3.out
      go_wp2_with fail
      refine (HYR.out _ HK3.out).mono ?_
      rintro e w4 ⟨rfl, hb4⟩
      have HK4 := Lib.hid (HK3.out.trans (hb4.mono HK3.out.size))
      have HTA4 := Lib.hid (HTA3.out.keep hb4)
      clear hta
      clear r0 r1 r2
      obtain ⟨r0, r1, r2⟩ := HS.out _ HK4.out
      clear hb4
      go_wp2_with fail
      refine (HRO.out _ HK4.out).mono ?_
      rintro e w5 ⟨vb, rfl, htb, hb5⟩
      have HK5 := Lib.hid (HK4.out.trans (hb5.mono HK4.out.size))
      obtain ⟨Aa, ca, rfl, _, _⟩ := HTA4.out.form
      obtain ⟨Ab, cb, rfl, _, _⟩ := htb.form
      have HTA := Lib.hid (HTA4.out.keep hb5)
      have HTB := Lib.hid htb
      obtain ⟨N, hN⟩ : ∃ N, tbs.length = N := ⟨_, rfl⟩
      rw [hN] at HTA HTB htl ⊢
      have HN := Lib.hid hN
      have e0 : ((N : Int) != (N : Int)) = false := by simp
      clear HTA3 HTA4 htb hb5 hN r0 r1 r2
      go_wp2_with fail
      go_loopg [6] N (fun gg s6 wr => ∃ i : Nat, i ≤ N ∧ gg = N - i ∧ s6 = .int .i64 i ∧ Below w5.heap.size w5 wr)
      case atStart => exact ⟨0, Nat.zero_le _, by omega, rfl, Below.refl _ _⟩
      case round =>
        obtain ⟨i, hi, hg, rfl, hbw⟩ := hrel
        have HG := Lib.hid hg
        have HBW := Lib.hid hbw
        by_cases hlt : i < N
        · have hi0 : (0 : Int) ≤ (i : Int) := by omega
          have hltz : (i : Int) < (N : Int) := by omega
          obtain ⟨x, hx⟩ := exP_at (xs := tbs) (k := i) (by rw [HN.out]; exact hlt)
          obtain ⟨ba, oa, A1, c1, A2, c2, hA, lba, g0, g1, g2, hi1, hs1⟩ := (HTA.out.keep hbw).at_ hx
          obtain ⟨bb, ob, B1, d1, B2, d2, hB, lbb, k0, k1, k2, hi2, hs2⟩ := (HTB.out.keep hbw).at_ hx
          subst hA hB
          have hdr : Below wr.heap.size wr wr.drew := (Below.refl _ wr).drew
          clear hbw hg hx
          go_wp2_with fail
          refine wp_region_held_drew (S := fun w' => w'.cell? ⟨ba, oa + i * 3, none⟩ = some (.int .i64 x.c) ∧ w'.cell? ⟨ba, oa + i * 3 + 1, none⟩ = some (.slice A1 x.ts.length c1) ∧ w'.cell? ⟨ba, oa + i * 3 + 2, none⟩ = some (.slice A2 x.ws.length c2) ∧ w'.cell? ⟨bb, ob + i * 3, none⟩ = some (.int .i64 x.c) ∧ w'.cell? ⟨bb, ob + i * 3 + 1, none⟩ = some (.slice B1 x.ts.length d1) ∧ w'.cell? ⟨bb, ob + i * 3 + 2, none⟩ = some (.slice B2 x.ws.length d2)) (by kernel_rfl) ?_ (fun hHeld => ?_)
          · exact ⟨g0, g1, g2, k0, k1, k2⟩
          refine wpAnyH_take (i := 0) (oi := ⟨some 46, _, _, _, _, _⟩) (v := ?_) rfl (by kernel_rfl) (by kernel_rfl) (by kernel_rfl) (fun _ _ _ h => h) (Or.inl ⟨by kernel_rfl, ?_⟩) (by assumption) ?_
          rotate_left
          · (intro w hSw; (try dsimp only at hSw); go_simp; try with_reducible rfl)
          (try simp only [Act.put, List.setIfInBounds_toArray, List.set_cons_zero, List.set_cons_succ])
          refine wpAnyH_take (i := 1) (oi := ⟨some 47, _, _, _, _, _⟩) (v := ?_) rfl (by kernel_rfl) (by kernel_rfl) (by kernel_rfl) (fun _ _ _ h => h) (Or.inl ⟨by kernel_rfl, ?_⟩) (by assumption) ?_
          rotate_left
          · (intro w hSw; (try dsimp only at hSw); go_simp; try with_reducible rfl)
          (try simp only [Act.put, List.setIfInBounds_toArray, List.set_cons_zero, List.set_cons_succ])
          refine wpAnyH_take (i := 2) (oi := ⟨some 48, _, _, _, _, _⟩) (v := ?_) rfl (by kernel_rfl) (by kernel_rfl) (by kernel_rfl) (fun _ _ _ h => h) (Or.inl ⟨by kernel_rfl, ?_⟩) (by assumption) ?_
          rotate_left
          · (intro w hSw; (try dsimp only at hSw); go_simp; try with_reducible rfl)
          (try simp only [Act.put, List.setIfInBounds_toArray, List.set_cons_zero, List.set_cons_succ])
          refine wpAnyH_take (i := 3) (oi := ⟨some 49, _, _, _, _, _⟩) (v := ?_) rfl (by kernel_rfl) (by kernel_rfl) (by kernel_rfl) (fun _ _ _ h => h) (Or.inl ⟨by kernel_rfl, ?_⟩) (by assumption) ?_
          rotate_left
          · (intro w hSw; (try dsimp only at hSw); go_simp; try with_reducible rfl)
          (try simp only [Act.put, List.setIfInBounds_toArray, List.set_cons_zero, List.set_cons_succ])
          refine wpAnyH_take (i := 4) (oi := ⟨some 50, _, _, _, _, _⟩) (v := ?_) rfl (by kernel_rfl) (by kernel_rfl) (by kernel_rfl) (fun _ _ _ h => h) (Or.inl ⟨by kernel_rfl, ?_⟩) (by assumption) ?_
          rotate_left
          · (intro w hSw; (try dsimp only at hSw); go_simp; try with_reducible rfl)
          (try simp only [Act.put, List.setIfInBounds_toArray, List.set_cons_zero, List.set_cons_succ])
          refine wpAnyH_take (i := 5) (oi := ⟨some 51, _, _, _, _, _⟩) (v := ?_) rfl (by kernel_rfl) (by kernel_rfl) (by kernel_rfl) (fun _ _ _ h => h) (Or.inl ⟨by kernel_rfl, ?_⟩) (by assumption) ?_
          rotate_left
          · (intro w hSw; (try dsimp only at hSw); go_simp; try with_reducible rfl)
          (try simp only [Act.put, List.setIfInBounds_toArray, List.set_cons_zero, List.set_cons_succ])
          refine wpAnyH_take (i := 6) (oi := ⟨some 52, _, _, _, _, _⟩) (v := ?_) rfl (by kernel_rfl) (by kernel_rfl) (by kernel_rfl) (fun _ _ _ h => h) (Or.inl ⟨by kernel_rfl, ?_⟩) (by assumption) ?_
          rotate_left
          · (intro w hSw; (try dsimp only at hSw); go_simp; try with_reducible rfl)
          (try simp only [Act.put, List.setIfInBounds_toArray, List.set_cons_zero, List.set_cons_succ])
          refine wpAnyH_take (i := 7) (oi := ⟨some 53, _, _, _, _, _⟩) (v := ?_) rfl (by kernel_rfl) (by kernel_rfl) (by kernel_rfl) (fun _ _ _ h => h) (Or.inl ⟨by kernel_rfl, ?_⟩) (by assumption) ?_
          rotate_left
          · (intro w hSw; (try dsimp only at hSw); go_simp; try with_reducible rfl)
          (try simp only [Act.put, List.setIfInBounds_toArray, List.set_cons_zero, List.set_cons_succ])
          refine wpAnyH_ready (rs := [8]) (by kernel_rfl) (by simp) ?_
          refine AllReadyH.cons (o := ⟨some 54, _, _, _, _, _⟩) rfl (fun K hK => ?_) AllReadyH.nil
          rw [if_pos (by kernel_rfl)]
          go_simp
          go_at_call 12; refine (theirs_any x A1 B1 A2 B2 c1 d1 c2 d2 _ (hi1.keep hdr) (hi2.keep hdr) (hs1.keep hdr) (hs2.keep hdr)).mono ?_; rintro e wq ⟨rfl, hbr⟩
          refine hK.out _ _ ?_ (fun hHeld => ?_)
          · exact ⟨(hbr.cell (p := ⟨ba, oa + i * 3, none⟩) lba).trans g0, (hbr.cell (p := ⟨ba, oa + i * 3 + 1, none⟩) lba).trans g1, (hbr.cell (p := ⟨ba, oa + i * 3 + 2, none⟩) lba).trans g2, (hbr.cell (p := ⟨bb, ob + i * 3, none⟩) lbb).trans k0, (hbr.cell (p := ⟨bb, ob + i * 3 + 1, none⟩) lbb).trans k1, (hbr.cell (p := ⟨bb, ob + i * 3 + 2, none⟩) lbb).trans k2⟩
          clear hK K
          (try simp only [Act.put, List.setIfInBounds_toArray, List.set_cons_zero, List.set_cons_succ])
          refine wpAnyH_take (i := 9) (oi := ⟨some 55, _, _, _, _, _⟩) (v := ?_) rfl (by kernel_rfl) (by kernel_rfl) (by kernel_rfl) (fun _ _ _ h => h) (Or.inl ⟨by kernel_rfl, ?_⟩) (by assumption) ?_
          rotate_left
          · (intro w hSw; (try dsimp only at hSw); go_simp; try with_reducible rfl)
          (try simp only [Act.put, List.setIfInBounds_toArray, List.set_cons_zero, List.set_cons_succ])
          refine wpAnyH_done (by kernel_rfl) ?_ _
          have HBQ := Lib.hid (HBW.out.drew.trans (hbr.mono HBW.out.drew.size))
          clear hHeld hbr g0 g1 g2 k0 k1 k2 hi1 hs1 hi2 hs2
          go_wp2_with fail
          go_roundg (N - (i + 1))
          case measure => have := HG.out; omega
          case rel => exact ⟨i + 1, by omega, rfl, by go_num, HBQ.out⟩
        · have hltz : ¬ (i : Int) < (N : Int) := by omega
          clear hbw
          go_wp2_with fail
          refine (HAW.out _).mono ?_
          rintro e w6 ⟨rfl, hb6⟩
          have HBE := Lib.hid (HK5.out.trans ((HBW.out.trans (hb6.mono HBW.out.size)).mono HK5.out.size))
          go_wp2_with fail
          go_ret
          exact ⟨rfl, HB1.out.trans (HBE.out.mono HB1.out.size)⟩
    · have HNR := Lib.hid (fun W hk => (HRI.out hL W hk).2 hr)
      have HOB := Lib.hid (fun W (hk : Below w1.heap.size w1 W) => of_bad f m v l W (HH.out W hk) hL.wide hm hr)
      unfold planA at HOB
      clear HRI HLI hlit hr hL ho
      go_enter Try.func3, Try.ntmps3
      go_wp2_with fail
      refine (HYL.out _ HK1.out).mono ?_
      rintro e w2 ⟨rfl, hb2⟩
      have HK2 := Lib.hid (HK1.out.trans (hb2.mono HK1.out.size))
      clear r0 r1 r2
      obtain ⟨r0, r1, r2⟩ := HS.out _ HK2.out
      clear hb2
      go_wp2_with fail
      refine (HOB.out _ HK2.out).mono ?_
      rintro e w3 ⟨rfl, hb3⟩
      have HK3 := Lib.hid (HK2.out.trans (hb3.mono HK2.out.size))
      clear r0 r1 r2
      obtain ⟨r0, r1, r2⟩ := HS.out _ HK3.out
      clear hb3
      go_wp2_with fail
      refine (HNR.out _ HK3.out).mono ?_
      rintro e w4 ⟨rfl, hb4⟩
      have HK4 := Lib.hid (HK3.out.trans (hb4.mono HK3.out.size))
      clear hb4
      go_wp2_with fail
      refine (HAW.out _).mono ?_
      rintro e w5 ⟨rfl, hb5⟩
      have HK5 := Lib.hid (HK4.out.trans (hb5.mono HK4.out.size))
      clear hb5
      go_wp2_with fail
      go_ret
      exact ⟨rfl, HB1.out.trans (HK5.out.mono HB1.out.size)⟩
  · have HNL := Lib.hid (fun W hk => (HLI.out W hk).2 hlit)
    clear HRI hlit
    go_enter Try.func3, Try.ntmps3
    go_wp2_with fail
    refine (HNL.out _ HK1.out).mono ?_
    rintro e w2 ⟨rfl, hb2⟩
    have HK2 := Lib.hid (HK1.out.trans (hb2.mono HK1.out.size))
    clear hb2
    go_wp2_with fail
    refine (HAW.out _).mono ?_
    rintro e w3 ⟨rfl, hb3⟩
    have HK3 := Lib.hid (HK2.out.trans (hb3.mono HK2.out.size))
    clear hb3
    go_wp2_with fail
    go_ret
    exact ⟨rfl, HB1.out.trans (HK3.out.mono HB1.out.size)⟩
end Go.Proofs.Ytpjmdnhoiobedaa
