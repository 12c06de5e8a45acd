/-
  The law of ticks: TableAt.
  Conditions: the slice reads as places; the numbers are of their kinds.
-/
import Derived.Test.YtpjmdnhoiobedaaLawOf
set_option linter.unusedVariables false
set_option linter.unusedSimpArgs false
namespace Go.Proofs.Ytpjmdnhoiobedaa
open Go.RowKit

theorem tabs_nodup (n m : Nat) (l : List Pl) : ((tabsOf n m l).map Tb.c).Nodup := by
  unfold tabsOf ticksI
  rw [List.map_map, List.map_map]
  have h : (ticksT m 16).Nodup := (List.nodup_range).filter _
  rw [List.Nodup, List.pairwise_map]
  exact h.imp fun hne e => hne (by have e' := e; simp only [Function.comp, tabOf] at e'; omega)
theorem tabs_len {n m : Nat} {l : List Pl} {x : Tb} (h : x ∈ tabsOf n m l) : x.ts.length = n := by
  unfold tabsOf at h
  obtain ⟨c, _, rfl⟩ := List.mem_map.1 h
  exact rowN_length _ _
theorem at_self {l : List Tb} (hn : (l.map Tb.c).Nodup) {i : Nat} {x : Tb} (hx : l[i]? = some x) {t : Int} : atT l x.c t = ownerT x t := by
  refine at_first hx rfl fun j y hj hy e => ?_
  obtain ⟨h1, h2⟩ := List.getElem?_eq_some_iff.1 hx
  obtain ⟨h3, h4⟩ := List.getElem?_eq_some_iff.1 hy
  rw [List.Nodup, List.pairwise_map, List.pairwise_iff_getElem] at hn
  have := hn j i h3 h1 hj
  rw [h2, h4] at this
  exact this e
theorem refAtN_any (v : Value) (l : List Tb) (hn : (l.map Tb.c).Nodup) (c t : Int) (w : World) (h : TabsAt w v l) (hl : l.length ≤ 1000) (ht : Int64 t) :
    Calls Try.prog 18 #[v, .int .i64 c, .int .i64 t] w (RetB (.int .i64 (atT l c t)) w) := by
  have h := refTabAt_any v l c t w h hl ht
  rwa [refAtT_eq hn] at h
theorem busy_get {l : List Tb} {i : Nat} {x : Tb} {t : Int} (hx : l[i]? = some x) (hz : ownerT x t ≠ 0) : (busyT l t)[(busyT (l.take i) t).length]? = some (ownerT x t) := by
  have hlt := (List.getElem?_eq_some_iff.1 hx).1
  have e : l = l.take (i + 1) ++ l.drop (i + 1) := (List.take_append_drop _ _).symm
  have e2 : busyT l t = busyT (l.take (i + 1)) t ++ busyT (l.drop (i + 1)) t := by
    conv => lhs; rw [e]
    unfold busyT
    rw [List.map_append, List.filter_append]
  rw [e2, busy_snoc hx, if_neg hz, List.append_assoc, List.getElem?_append_right (Nat.le_refl _), Nat.sub_self]
  rfl

set_option maxRecDepth 100000 in
set_option maxHeartbeats 16000000 in
theorem at_law (f : Int) (m : Nat) (v : Value) (l : List Pl) (c t : Int) (w : World) (h : PlsAt w v l) (ho : ∀ x ∈ l, PlOk x) (hm : m < 4294967296) (hc : Int64 c) (ht : Int64 t) :
    Calls Try.prog 5 #[planA f m v, .int .i64 c, .int .i64 t] w (RetB (.bool true) w) := by
  obtain ⟨w1, P, hw1, hP, hPl, hb1, hbox⟩ := box_any w #[.int .i64 f, .int .u32 m, v] 25
  have HB1 := Lib.hid hb1
  have HH : Hid (∀ W, Below w1.heap.size w1 W → PlsAt W v l) := Lib.hid (fun W hk => h.keep (HB1.out.trans (hk.mono HB1.out.size)))
  have HS : Hid (∀ W, Below w1.heap.size w1 W → W.cell? ⟨P, 0, none⟩ = some (.int .i64 f) ∧ W.cell? ⟨P, 1, none⟩ = some (.int .u32 m) ∧ W.cell? ⟨P, 2, none⟩ = some v) := Lib.hid (fun W hk => three_heads (keep_block hbox hk))
  have HLI := Lib.hid (fun W (hk : Below w1.heap.size w1 W) => calls_iff (light_any f m v l W (HH.out W hk)))
  have HRI := Lib.hid (fun (hL : LightL l) W (hk : Below w1.heap.size w1 W) => calls_iff (right_any f m v l W (HH.out W hk) hL hm))
  have HAW := Lib.hid (fun W => awake_any W)
  have HK1 := Lib.hid (Below.refl w1.heap.size w1)
  unfold planA at HLI HRI ⊢
  obtain ⟨r0, r1, r2⟩ := HS.out _ HK1.out
  clear h hb1 hbox
  have mixed : Try.prog.follows .mixedOrders = true := by kernel_rfl
  by_cases hlit : Lit l
  · have hL := hlit.light ho
    have HYL := Lib.hid (fun W hk => (HLI.out W hk).1 hlit)
    by_cases hr : Right f m l
    · obtain ⟨n, rfl⟩ : ∃ n : Nat, f = (n : Int) := ⟨f.toNat, by have := hr.f2; omega⟩
      have hn64 : n ≤ 64 := by have := hr.f64; omega
      have HYR := Lib.hid (fun W hk => (HRI.out hL W hk).1 hr)
      have HOF := Lib.hid (fun W (hk : Below w1.heap.size w1 W) => of_right n m v l W (HH.out W hk) hL hr)
      have HRO := Lib.hid (fun W (hk : Below w1.heap.size w1 W) => refOf_any n m v l W (HH.out W hk) hL hm hn64)
      have htl := tabsOf_le n m l
      have hnd := tabs_nodup n m l
      have hxl : ∀ x ∈ tabsOf n m l, x.ts.length = n := fun x hx => tabs_len hx
      generalize tabsOf n m l = tbs at HOF HRO htl hnd hxl
      have HXLL := Lib.hid hxl
      have HRA := Lib.hid (fun vb c t W h ht => refAtN_any vb tbs hnd c t W h (by omega) ht)
      have HTT := Lib.hid (fun va W h => tabAt_any va tbs c t W h (by omega) ht)
      have HBU := Lib.hid (fun va W h => busy_any va tbs t W h (by omega) ht)
      have HBG := Lib.hid (fun (i : Nat) (x : Tb) (hx : tbs[i]? = some x) hz => busy_get (t := t) hx hz)
      obtain ⟨U, hU⟩ : ∃ U, atT tbs c t = U := ⟨_, rfl⟩
      have HR7 := Lib.hid (fun vb W h => HRA.out vb c t W h ht)
      rw [hU] at HTT HR7
      have e0 : (U != U) = false := by simp
      unfold planA at HOF HRO
      clear HRI HLI hlit hr hL ho hxl hU
      go_enter Try.func5, Try.ntmps5
      go_wp2_with fail
      refine (HYL.out _ HK1.out).mono ?_
      rintro e w2 ⟨rfl, hb2⟩
      have HK2 := Lib.hid (HK1.out.trans (hb2.mono HK1.out.size))
      clear r0 r1 r2
      obtain ⟨r0, r1, r2⟩ := HS.out _ HK2.out
      clear hb2
      go_wp2_with fail
      refine (HYR.out _ HK2.out).mono ?_
      rintro e w3 ⟨rfl, hb3⟩
      have HK3 := Lib.hid (HK2.out.trans (hb3.mono HK2.out.size))
      clear r0 r1 r2
      obtain ⟨r0, r1, r2⟩ := HS.out _ HK3.out
      clear hb3
      go_wp2_with fail
      refine (HOF.out _ HK3.out).mono ?_
      rintro e w4 ⟨va, rfl, hta, hb4⟩
      have HK4 := Lib.hid (HK3.out.trans (hb4.mono HK3.out.size))
      obtain ⟨Aa, ca, rfl, _, _⟩ := hta.form
      obtain ⟨N, hN⟩ : ∃ N, tbs.length = N := ⟨_, rfl⟩
      rw [hN] at hta htl ⊢
      have HTA4 := Lib.hid hta
      have HN := Lib.hid hN
      clear hb4 hta hN
      go_wp2_with fail
      refine (HTT.out _ _ HTA4.out).mono ?_
      rintro e w5 ⟨bo, rfl, hbo, hb5⟩
      have HK5 := Lib.hid (HK4.out.trans (hb5.mono HK4.out.size))
      have HTA5 := Lib.hid (HTA4.out.keep hb5)
      have HBO := Lib.hid (show bo = decide (U ≠ 0) from hbo)
      clear hb5 hbo
      clear r0 r1 r2
      obtain ⟨r0, r1, r2⟩ := HS.out _ HK5.out
      go_wp2_with fail
      refine (HRO.out _ HK5.out).mono ?_
      rintro e w6 ⟨vb, rfl, htb, hb6⟩
      have HK6 := Lib.hid (HK5.out.trans (hb6.mono HK5.out.size))
      have HTA6 := Lib.hid (HTA5.out.keep hb6)
      have HTB := Lib.hid htb
      obtain ⟨Ab, cb, rfl, _, _⟩ := htb.form
      clear hb6 htb
      go_wp2_with fail
      refine (HR7.out _ _ HTB.out).mono ?_
      rintro e w7 ⟨rfl, hb7⟩
      have HK7 := Lib.hid (HK6.out.trans (hb7.mono HK6.out.size))
      have HTA7 := Lib.hid (HTA6.out.keep hb7)
      clear hb7 HTB
      clear r0 r1 r2
      obtain ⟨r0, r1, r2⟩ := HS.out _ HK7.out
      go_upto_region 8 with fail
      go_cut [54] from 46 to 54 (fun s54 wx => s54 = .bool false ∧ wx = w7)
      case first =>
        by_cases hU0 : U = 0
        · have hU1 : (U != 0) = false := by simpa using hU0
          have hb0 : bo = false := by rw [HBO.out]; simp [hU0]
          subst hb0
          clear hU0
          go_wp2_with fail
          go_meet
          exact ⟨rfl, rfl⟩
        · have hU1 : (U != 0) = true := by simpa using hU0
          have hb0 : bo = true := by rw [HBO.out]; simp [hU0]
          subst hb0
          clear hU0
          go_wp2_with fail
          go_meet
          exact ⟨rfl, rfl⟩
      case rest =>
       obtain ⟨rfl, rfl⟩ := hcut
       go_wp2_with fail
       refine (HBU.out _ _ HTA7.out).mono ?_
       rintro e w8 ⟨vq, rfl, hiq, hb8⟩
       have HK8 := Lib.hid (HK7.out.trans (hb8.mono HK7.out.size))
       have HTA8 := Lib.hid (HTA7.out.keep hb8)
       obtain ⟨Aq, cq, rfl⟩ := hiq.form
       have HIQ := Lib.hid hiq
       have hqn := busy_le tbs t
       obtain ⟨NQ, hNQ⟩ : ∃ NQ, (busyT tbs t).length = NQ := ⟨_, rfl⟩
       rw [hNQ] at HIQ hqn ⊢
       rw [HN.out] at hqn
       have HNQ := Lib.hid hNQ
       clear hb8 hiq hNQ HTA4 HTA5 HTA6 HTA7 r0 r1 r2
       go_wp2_with fail
       go_loopg [13, 14, 15, 16, 17] N (fun gg s13 s14 _ _ _ wr => ∃ (i k : Nat), i ≤ N ∧ gg = N - i ∧ s14 = .int .i64 i ∧ s13 = .int .i64 k ∧ Hid ((busyT (tbs.take i) t).length = k) ∧ Below w8.heap.size w8 wr)
       case atStart => exact ⟨0, 0, Nat.zero_le _, by omega, rfl, rfl, rfl, Below.refl _ _⟩
       case round =>
         obtain ⟨i, k, hi, hg, rfl, rfl, HKQ, hbw⟩ := hrel
         have HG := Lib.hid hg
         have HBW := Lib.hid hbw
         have HKW := Lib.hid (HK8.out.trans (hbw.mono HK8.out.size))
         obtain ⟨r0, r1, r2⟩ := HS.out _ HKW.out
         have lP : P < wr.heap.size := Nat.lt_of_lt_of_le hPl HKW.out.size
         have hk16 : k ≤ 16 := by
           have h1 := busy_le (tbs.take i) t
           rw [show (busyT (tbs.take i) t).length = k from HKQ, List.length_take] at h1
           omega
         clear hg
         by_cases hlt : i < N
         · have hi0 : (0 : Int) ≤ (i : Int) := by omega
           have hltz : (i : Int) < (N : Int) := by omega
           obtain ⟨x, hx⟩ := exP_at (xs := tbs) (k := i) (by rw [HN.out]; exact hlt)
           obtain ⟨ba, oa, A1, c1, A2, c2, hA, lba, g0, g1, g2, _, _⟩ := (HTA8.out.keep hbw).at_ hx
           subst hA
           have HX := Lib.hid hx
           have HXL := Lib.hid (HXLL.out x (List.mem_of_getElem? hx))
           have HSN := Lib.hid (busy_snoc hx t)
           obtain ⟨y, hy⟩ : ∃ y, ownerT x t = y := ⟨_, rfl⟩
           have HY := Lib.hid (show atT tbs x.c t = y from (at_self hnd hx).trans hy)
           have HGB := Lib.hid (HBG.out i x hx)
           rw [hy] at HSN HGB
           clear hbw hx hy
           by_cases hy0 : y = 0
           · have hy1 : (y != 0) = false := by simpa using hy0
             rw [if_pos hy0, List.append_nil] at HSN
             have HKN : Hid ((busyT (tbs.take (i + 1)) t).length = k) := Lib.hid (by rw [HSN.out]; exact HKQ)
             clear hy0
             go_wp2_with fail
             refine wp_region_held_drew (S := fun w' => w'.cell? ⟨P, 0, none⟩ = some (.int .i64 (n : Int)) ∧ w'.cell? ⟨P, 1, none⟩ = some (.int .u32 m) ∧ w'.cell? ⟨P, 2, none⟩ = some (v) ∧ w'.cell? ⟨ba, oa + i * 3, none⟩ = some (.int .i64 x.c)) (by kernel_rfl) ?_ (fun hHeld => ?_)
             · exact ⟨r0, r1, r2, g0⟩
             refine wpAnyH_take (i := 0) (oi := ⟨some 64, _, _, _, _, _⟩) (v := ?_) rfl (by kernel_rfl) (by kernel_rfl) (by kernel_rfl) (fun _ _ _ h => h) (Or.inl ⟨by kernel_rfl, ?_⟩) (by assumption) ?_
             rotate_left
             · (intro w hSw; (try dsimp only at hSw); go_simp; try with_reducible rfl)
             (try simp only [Act.put, List.setIfInBounds_toArray, List.set_cons_zero, List.set_cons_succ])
             refine wpAnyH_take (i := 2) (oi := ⟨some 66, _, _, _, _, _⟩) (v := ?_) rfl (by kernel_rfl) (by kernel_rfl) (by kernel_rfl) (fun _ _ _ h => h) (Or.inl ⟨by kernel_rfl, ?_⟩) (by assumption) ?_
             rotate_left
             · (intro w hSw; (try dsimp only at hSw); go_simp; try with_reducible rfl)
             (try simp only [Act.put, List.setIfInBounds_toArray, List.set_cons_zero, List.set_cons_succ])
             refine wpAnyH_take (i := 3) (oi := ⟨some 67, _, _, _, _, _⟩) (v := ?_) rfl (by kernel_rfl) (by kernel_rfl) (by kernel_rfl) (fun _ _ _ h => h) (Or.inl ⟨by kernel_rfl, ?_⟩) (by assumption) ?_
             rotate_left
             · (intro w hSw; (try dsimp only at hSw); go_simp; try with_reducible rfl)
             (try simp only [Act.put, List.setIfInBounds_toArray, List.set_cons_zero, List.set_cons_succ])
             refine wpAnyH_take (i := 4) (oi := ⟨some 68, _, _, _, _, _⟩) (v := ?_) rfl (by kernel_rfl) (by kernel_rfl) (by kernel_rfl) (fun _ _ _ h => h) (Or.inl ⟨by kernel_rfl, ?_⟩) (by assumption) ?_
             rotate_left
             · (intro w hSw; (try dsimp only at hSw); go_simp; try with_reducible rfl)
             (try simp only [Act.put, List.setIfInBounds_toArray, List.set_cons_zero, List.set_cons_succ])
             refine wpAnyH_take (i := 5) (oi := ⟨some 69, _, _, _, _, _⟩) (v := ?_) rfl (by kernel_rfl) (by kernel_rfl) (by kernel_rfl) (fun _ _ _ h => h) (Or.inl ⟨by kernel_rfl, ?_⟩) (by assumption) ?_
             rotate_left
             · (intro w hSw; (try dsimp only at hSw); go_simp; try with_reducible rfl)
             (try simp only [Act.put, List.setIfInBounds_toArray, List.set_cons_zero, List.set_cons_succ])
             refine wpAnyH_take (i := 6) (oi := ⟨some 70, _, _, _, _, _⟩) (v := ?_) rfl (by kernel_rfl) (by kernel_rfl) (by kernel_rfl) (fun _ _ _ h => h) (Or.inl ⟨by kernel_rfl, ?_⟩) (by assumption) ?_
             rotate_left
             · (intro w hSw; (try dsimp only at hSw); go_simp; try with_reducible rfl)
             (try simp only [Act.put, List.setIfInBounds_toArray, List.set_cons_zero, List.set_cons_succ])
             refine wpAnyH_take (i := 7) (oi := ⟨some 71, _, _, _, _, _⟩) (v := ?_) rfl (by kernel_rfl) (by kernel_rfl) (by kernel_rfl) (fun _ _ _ h => h) (Or.inl ⟨by kernel_rfl, ?_⟩) (by assumption) ?_
             rotate_left
             · (intro w hSw; (try dsimp only at hSw); go_simp; try with_reducible rfl)
             (try simp only [Act.put, List.setIfInBounds_toArray, List.set_cons_zero, List.set_cons_succ])
             refine wpAnyH_ready (rs := [1]) (by kernel_rfl) (by simp) ?_
             refine AllReadyH.cons (o := ⟨some 65, _, _, _, _, _⟩) rfl (fun K hK => ?_) AllReadyH.nil
             rw [if_pos (by kernel_rfl)]
             go_simp
             go_at_call 11; refine (HRO.out _ (HKW.out.drew)).mono ?_; rintro e wq ⟨vb, rfl, htb, hbr⟩
             obtain ⟨Ab, cb, rfl, _, _⟩ := htb.form
             refine hK.out _ _ ?_ (fun hHeld => ?_)
             · exact ⟨(hbr.cell (p := ⟨P, 0, none⟩) lP).trans r0, (hbr.cell (p := ⟨P, 1, none⟩) lP).trans r1, (hbr.cell (p := ⟨P, 2, none⟩) lP).trans r2, (hbr.cell (p := ⟨ba, oa + i * 3, none⟩) lba).trans g0⟩
             clear hK K
             (try simp only [Act.put, List.setIfInBounds_toArray, List.set_cons_zero, List.set_cons_succ])
             refine wpAnyH_ready (rs := [8]) (by kernel_rfl) (by simp) ?_
             refine AllReadyH.cons (o := ⟨some 72, _, _, _, _, _⟩) rfl (fun K hK => ?_) AllReadyH.nil
             rw [if_pos (by kernel_rfl)]
             go_simp
             go_at_call 18; refine (HRA.out _ x.c t _ htb ht).mono ?_; rw [HY.out]; rintro e wq2 ⟨rfl, hbr2⟩
             have hbr3 := hbr.trans (hbr2.mono hbr.size)
             refine hK.out _ _ ?_ (fun hHeld => ?_)
             · exact ⟨(hbr3.cell (p := ⟨P, 0, none⟩) lP).trans r0, (hbr3.cell (p := ⟨P, 1, none⟩) lP).trans r1, (hbr3.cell (p := ⟨P, 2, none⟩) lP).trans r2, (hbr3.cell (p := ⟨ba, oa + i * 3, none⟩) lba).trans g0⟩
             clear hK K
             (try simp only [Act.put, List.setIfInBounds_toArray, List.set_cons_zero, List.set_cons_succ])
             refine wpAnyH_take (i := 9) (oi := ⟨some 15, _, _, _, _, _⟩) (v := ?_) rfl (by kernel_rfl) (by kernel_rfl) (by kernel_rfl) (fun _ _ _ h => h) (Or.inl ⟨by kernel_rfl, ?_⟩) (by assumption) ?_
             rotate_left
             · (intro w hSw; (try dsimp only at hSw); go_simp; try with_reducible rfl)
             (try simp only [Act.put, List.setIfInBounds_toArray, List.set_cons_zero, List.set_cons_succ])
             refine wpAnyH_done (by kernel_rfl) ?_ _
             have HBQ := Lib.hid (HBW.out.drew.trans (hbr3.mono HBW.out.drew.size))
             clear hHeld hbr hbr2 hbr3 g0 g1 g2 r0 r1 r2 htb
             have lP2 : P < w8.heap.size := Nat.lt_of_lt_of_le hPl HK8.out.size
             obtain ⟨r0, r1, r2⟩ := HS.out _ (HK8.out.trans (HBQ.out.mono HK8.out.size))
             go_wp2_with fail
             clear r0 r1 r2
             go_loopg [16, 17] n (fun gg s16 s17 wr => ∃ (s q : Nat), s ≤ n ∧ gg = n - s ∧ s17 = .int .i64 s ∧ s16 = .int .i64 q ∧ Hid (cntI (x.ts.take s) 0 = q) ∧ Below w8.heap.size w8 wr)
             case atStart => exact ⟨0, 0, Nat.zero_le _, by omega, rfl, rfl, rfl, HBQ.out⟩
             case round =>
               obtain ⟨s, q, hs, hgs, rfl, rfl, HQ, hbs⟩ := hrel
               have HGS := Lib.hid hgs
               have HBS := Lib.hid hbs
               have HKS := Lib.hid (HK8.out.trans (hbs.mono HK8.out.size))
               obtain ⟨r0, r1, r2⟩ := HS.out _ HKS.out
               have lP : P < wr.heap.size := Nat.lt_of_lt_of_le hPl HKS.out.size
               obtain ⟨ba, oa, A1, c1, A2, c2, hA, lba, g0, g1, g2, hi1, _⟩ := (HTA8.out.keep hbs).at_ HX.out
               injection hA with hA
               injection hA with e1 e2
               subst e1 e2
               have hqb : q ≤ 64 := by
                 have h1 := cntI_le (x.ts.take s) 0
                 rw [show cntI (x.ts.take s) 0 = q from HQ, List.length_take] at h1
                 omega
               clear hgs hbs
               by_cases hsn : s < n
               · have hs0 : (0 : Int) ≤ (s : Int) := by omega
                 have hsz : (s : Int) < (n : Int) := by omega
                 obtain ⟨z, hz⟩ := exP_at (xs := x.ts) (k := s) (by rw [HXL.out]; exact hsn)
                 have HZ := Lib.hid (show atT tbs x.c (s : Int) = z by
                   rw [at_self hnd HX.out]
                   unfold ownerT
                   rw [if_neg (by omega), Int.toNat_natCast, hz, Option.getD_some])
                 have HNX := Lib.hid (cnt_snoc hz 0)
                 have hs64 : Int64 (s : Int) := ⟨by omega, by omega⟩
                 clear hz
                 by_cases he : z = 0
                 · have he1 : (z == 0) = true := by simpa using he
                   rw [decide_eq_true he] at HNX
                   clear he
                   go_wp2_with fail
                   refine wp_region_held_drew (S := fun w' => w'.cell? ⟨P, 0, none⟩ = some (.int .i64 (n : Int)) ∧ w'.cell? ⟨P, 1, none⟩ = some (.int .u32 m) ∧ w'.cell? ⟨P, 2, none⟩ = some (v) ∧ w'.cell? ⟨ba, oa + i * 3, none⟩ = some (.int .i64 x.c)) (by kernel_rfl) ?_ (fun hHeld => ?_)
                   · exact ⟨r0, r1, r2, g0⟩
                   refine wpAnyH_take (i := 0) (oi := ⟨some 95, _, _, _, _, _⟩) (v := ?_) rfl (by kernel_rfl) (by kernel_rfl) (by kernel_rfl) (fun _ _ _ h => h) (Or.inl ⟨by kernel_rfl, ?_⟩) (by assumption) ?_
                   rotate_left
                   · (intro w hSw; (try dsimp only at hSw); go_simp; try with_reducible rfl)
                   (try simp only [Act.put, List.setIfInBounds_toArray, List.set_cons_zero, List.set_cons_succ])
                   refine wpAnyH_take (i := 2) (oi := ⟨some 97, _, _, _, _, _⟩) (v := ?_) rfl (by kernel_rfl) (by kernel_rfl) (by kernel_rfl) (fun _ _ _ h => h) (Or.inl ⟨by kernel_rfl, ?_⟩) (by assumption) ?_
                   rotate_left
                   · (intro w hSw; (try dsimp only at hSw); go_simp; try with_reducible rfl)
                   (try simp only [Act.put, List.setIfInBounds_toArray, List.set_cons_zero, List.set_cons_succ])
                   refine wpAnyH_take (i := 3) (oi := ⟨some 98, _, _, _, _, _⟩) (v := ?_) rfl (by kernel_rfl) (by kernel_rfl) (by kernel_rfl) (fun _ _ _ h => h) (Or.inl ⟨by kernel_rfl, ?_⟩) (by assumption) ?_
                   rotate_left
                   · (intro w hSw; (try dsimp only at hSw); go_simp; try with_reducible rfl)
                   (try simp only [Act.put, List.setIfInBounds_toArray, List.set_cons_zero, List.set_cons_succ])
                   refine wpAnyH_take (i := 4) (oi := ⟨some 99, _, _, _, _, _⟩) (v := ?_) rfl (by kernel_rfl) (by kernel_rfl) (by kernel_rfl) (fun _ _ _ h => h) (Or.inl ⟨by kernel_rfl, ?_⟩) (by assumption) ?_
                   rotate_left
                   · (intro w hSw; (try dsimp only at hSw); go_simp; try with_reducible rfl)
                   (try simp only [Act.put, List.setIfInBounds_toArray, List.set_cons_zero, List.set_cons_succ])
                   refine wpAnyH_take (i := 5) (oi := ⟨some 100, _, _, _, _, _⟩) (v := ?_) rfl (by kernel_rfl) (by kernel_rfl) (by kernel_rfl) (fun _ _ _ h => h) (Or.inl ⟨by kernel_rfl, ?_⟩) (by assumption) ?_
                   rotate_left
                   · (intro w hSw; (try dsimp only at hSw); go_simp; try with_reducible rfl)
                   (try simp only [Act.put, List.setIfInBounds_toArray, List.set_cons_zero, List.set_cons_succ])
                   refine wpAnyH_take (i := 6) (oi := ⟨some 101, _, _, _, _, _⟩) (v := ?_) rfl (by kernel_rfl) (by kernel_rfl) (by kernel_rfl) (fun _ _ _ h => h) (Or.inl ⟨by kernel_rfl, ?_⟩) (by assumption) ?_
                   rotate_left
                   · (intro w hSw; (try dsimp only at hSw); go_simp; try with_reducible rfl)
                   (try simp only [Act.put, List.setIfInBounds_toArray, List.set_cons_zero, List.set_cons_succ])
                   refine wpAnyH_take (i := 7) (oi := ⟨some 102, _, _, _, _, _⟩) (v := ?_) rfl (by kernel_rfl) (by kernel_rfl) (by kernel_rfl) (fun _ _ _ h => h) (Or.inl ⟨by kernel_rfl, ?_⟩) (by assumption) ?_
                   rotate_left
                   · (intro w hSw; (try dsimp only at hSw); go_simp; try with_reducible rfl)
                   (try simp only [Act.put, List.setIfInBounds_toArray, List.set_cons_zero, List.set_cons_succ])
                   refine wpAnyH_ready (rs := [1]) (by kernel_rfl) (by simp) ?_
                   refine AllReadyH.cons (o := ⟨some 96, _, _, _, _, _⟩) rfl (fun K hK => ?_) AllReadyH.nil
                   rw [if_pos (by kernel_rfl)]
                   go_simp
                   go_at_call 11; refine (HRO.out _ (HKS.out.drew)).mono ?_; rintro e wq ⟨vb, rfl, htb, hbr⟩
                   obtain ⟨Ab, cb, rfl, _, _⟩ := htb.form
                   refine hK.out _ _ ?_ (fun hHeld => ?_)
                   · exact ⟨(hbr.cell (p := ⟨P, 0, none⟩) lP).trans r0, (hbr.cell (p := ⟨P, 1, none⟩) lP).trans r1, (hbr.cell (p := ⟨P, 2, none⟩) lP).trans r2, (hbr.cell (p := ⟨ba, oa + i * 3, none⟩) lba).trans g0⟩
                   clear hK K
                   (try simp only [Act.put, List.setIfInBounds_toArray, List.set_cons_zero, List.set_cons_succ])
                   refine wpAnyH_ready (rs := [8]) (by kernel_rfl) (by simp) ?_
                   refine AllReadyH.cons (o := ⟨some 103, _, _, _, _, _⟩) rfl (fun K hK => ?_) AllReadyH.nil
                   rw [if_pos (by kernel_rfl)]
                   go_simp
                   go_at_call 18; refine (HRA.out _ x.c (s : Int) _ htb hs64).mono ?_; rw [HZ.out]; rintro e wq2 ⟨rfl, hbr2⟩
                   have hbr3 := hbr.trans (hbr2.mono hbr.size)
                   refine hK.out _ _ ?_ (fun hHeld => ?_)
                   · exact ⟨(hbr3.cell (p := ⟨P, 0, none⟩) lP).trans r0, (hbr3.cell (p := ⟨P, 1, none⟩) lP).trans r1, (hbr3.cell (p := ⟨P, 2, none⟩) lP).trans r2, (hbr3.cell (p := ⟨ba, oa + i * 3, none⟩) lba).trans g0⟩
                   clear hK K
                   (try simp only [Act.put, List.setIfInBounds_toArray, List.set_cons_zero, List.set_cons_succ])
                   refine wpAnyH_take (i := 9) (oi := ⟨some 104, _, _, _, _, _⟩) (v := ?_) rfl (by kernel_rfl) (by kernel_rfl) (by kernel_rfl) (fun _ _ _ h => h) (Or.inl ⟨by kernel_rfl, ?_⟩) (by assumption) ?_
                   rotate_left
                   · (intro w hSw; (try dsimp only at hSw); go_simp; try with_reducible rfl)
                   (try simp only [Act.put, List.setIfInBounds_toArray, List.set_cons_zero, List.set_cons_succ])
                   refine wpAnyH_done (by kernel_rfl) ?_ _
                   have HBV := Lib.hid (HBS.out.drew.trans (hbr3.mono HBS.out.drew.size))
                   clear hHeld hbr hbr2 hbr3 g0 g1 g2 r0 r1 r2 htb hi1
                   go_wp2_with fail
                   go_roundg (n - (s + 1))
                   case measure => have := HGS.out; omega
                   case rel => exact ⟨s + 1, q + 1, by omega, rfl, by go_num, by go_num, Lib.hid (by have := HNX.out; rw [show cntI (x.ts.take s) 0 = q from HQ] at this; exact this), HBV.out⟩
                 · have he1 : (z == 0) = false := by simpa using he
                   rw [decide_eq_false he] at HNX
                   clear he
                   go_wp2_with fail
                   refine wp_region_held_drew (S := fun w' => w'.cell? ⟨P, 0, none⟩ = some (.int .i64 (n : Int)) ∧ w'.cell? ⟨P, 1, none⟩ = some (.int .u32 m) ∧ w'.cell? ⟨P, 2, none⟩ = some (v) ∧ w'.cell? ⟨ba, oa + i * 3, none⟩ = some (.int .i64 x.c)) (by kernel_rfl) ?_ (fun hHeld => ?_)
                   · exact ⟨r0, r1, r2, g0⟩
                   refine wpAnyH_take (i := 0) (oi := ⟨some 95, _, _, _, _, _⟩) (v := ?_) rfl (by kernel_rfl) (by kernel_rfl) (by kernel_rfl) (fun _ _ _ h => h) (Or.inl ⟨by kernel_rfl, ?_⟩) (by assumption) ?_
                   rotate_left
                   · (intro w hSw; (try dsimp only at hSw); go_simp; try with_reducible rfl)
                   (try simp only [Act.put, List.setIfInBounds_toArray, List.set_cons_zero, List.set_cons_succ])
                   refine wpAnyH_take (i := 2) (oi := ⟨some 97, _, _, _, _, _⟩) (v := ?_) rfl (by kernel_rfl) (by kernel_rfl) (by kernel_rfl) (fun _ _ _ h => h) (Or.inl ⟨by kernel_rfl, ?_⟩) (by assumption) ?_
                   rotate_left
                   · (intro w hSw; (try dsimp only at hSw); go_simp; try with_reducible rfl)
                   (try simp only [Act.put, List.setIfInBounds_toArray, List.set_cons_zero, List.set_cons_succ])
                   refine wpAnyH_take (i := 3) (oi := ⟨some 98, _, _, _, _, _⟩) (v := ?_) rfl (by kernel_rfl) (by kernel_rfl) (by kernel_rfl) (fun _ _ _ h => h) (Or.inl ⟨by kernel_rfl, ?_⟩) (by assumption) ?_
                   rotate_left
                   · (intro w hSw; (try dsimp only at hSw); go_simp; try with_reducible rfl)
                   (try simp only [Act.put, List.setIfInBounds_toArray, List.set_cons_zero, List.set_cons_succ])
                   refine wpAnyH_take (i := 4) (oi := ⟨some 99, _, _, _, _, _⟩) (v := ?_) rfl (by kernel_rfl) (by kernel_rfl) (by kernel_rfl) (fun _ _ _ h => h) (Or.inl ⟨by kernel_rfl, ?_⟩) (by assumption) ?_
                   rotate_left
                   · (intro w hSw; (try dsimp only at hSw); go_simp; try with_reducible rfl)
                   (try simp only [Act.put, List.setIfInBounds_toArray, List.set_cons_zero, List.set_cons_succ])
                   refine wpAnyH_take (i := 5) (oi := ⟨some 100, _, _, _, _, _⟩) (v := ?_) rfl (by kernel_rfl) (by kernel_rfl) (by kernel_rfl) (fun _ _ _ h => h) (Or.inl ⟨by kernel_rfl, ?_⟩) (by assumption) ?_
                   rotate_left
                   · (intro w hSw; (try dsimp only at hSw); go_simp; try with_reducible rfl)
                   (try simp only [Act.put, List.setIfInBounds_toArray, List.set_cons_zero, List.set_cons_succ])
                   refine wpAnyH_take (i := 6) (oi := ⟨some 101, _, _, _, _, _⟩) (v := ?_) rfl (by kernel_rfl) (by kernel_rfl) (by kernel_rfl) (fun _ _ _ h => h) (Or.inl ⟨by kernel_rfl, ?_⟩) (by assumption) ?_
                   rotate_left
                   · (intro w hSw; (try dsimp only at hSw); go_simp; try with_reducible rfl)
                   (try simp only [Act.put, List.setIfInBounds_toArray, List.set_cons_zero, List.set_cons_succ])
                   refine wpAnyH_take (i := 7) (oi := ⟨some 102, _, _, _, _, _⟩) (v := ?_) rfl (by kernel_rfl) (by kernel_rfl) (by kernel_rfl) (fun _ _ _ h => h) (Or.inl ⟨by kernel_rfl, ?_⟩) (by assumption) ?_
                   rotate_left
                   · (intro w hSw; (try dsimp only at hSw); go_simp; try with_reducible rfl)
                   (try simp only [Act.put, List.setIfInBounds_toArray, List.set_cons_zero, List.set_cons_succ])
                   refine wpAnyH_ready (rs := [1]) (by kernel_rfl) (by simp) ?_
                   refine AllReadyH.cons (o := ⟨some 96, _, _, _, _, _⟩) rfl (fun K hK => ?_) AllReadyH.nil
                   rw [if_pos (by kernel_rfl)]
                   go_simp
                   go_at_call 11; refine (HRO.out _ (HKS.out.drew)).mono ?_; rintro e wq ⟨vb, rfl, htb, hbr⟩
                   obtain ⟨Ab, cb, rfl, _, _⟩ := htb.form
                   refine hK.out _ _ ?_ (fun hHeld => ?_)
                   · exact ⟨(hbr.cell (p := ⟨P, 0, none⟩) lP).trans r0, (hbr.cell (p := ⟨P, 1, none⟩) lP).trans r1, (hbr.cell (p := ⟨P, 2, none⟩) lP).trans r2, (hbr.cell (p := ⟨ba, oa + i * 3, none⟩) lba).trans g0⟩
                   clear hK K
                   (try simp only [Act.put, List.setIfInBounds_toArray, List.set_cons_zero, List.set_cons_succ])
                   refine wpAnyH_ready (rs := [8]) (by kernel_rfl) (by simp) ?_
                   refine AllReadyH.cons (o := ⟨some 103, _, _, _, _, _⟩) rfl (fun K hK => ?_) AllReadyH.nil
                   rw [if_pos (by kernel_rfl)]
                   go_simp
                   go_at_call 18; refine (HRA.out _ x.c (s : Int) _ htb hs64).mono ?_; rw [HZ.out]; rintro e wq2 ⟨rfl, hbr2⟩
                   have hbr3 := hbr.trans (hbr2.mono hbr.size)
                   refine hK.out _ _ ?_ (fun hHeld => ?_)
                   · exact ⟨(hbr3.cell (p := ⟨P, 0, none⟩) lP).trans r0, (hbr3.cell (p := ⟨P, 1, none⟩) lP).trans r1, (hbr3.cell (p := ⟨P, 2, none⟩) lP).trans r2, (hbr3.cell (p := ⟨ba, oa + i * 3, none⟩) lba).trans g0⟩
                   clear hK K
                   (try simp only [Act.put, List.setIfInBounds_toArray, List.set_cons_zero, List.set_cons_succ])
                   refine wpAnyH_take (i := 9) (oi := ⟨some 104, _, _, _, _, _⟩) (v := ?_) rfl (by kernel_rfl) (by kernel_rfl) (by kernel_rfl) (fun _ _ _ h => h) (Or.inl ⟨by kernel_rfl, ?_⟩) (by assumption) ?_
                   rotate_left
                   · (intro w hSw; (try dsimp only at hSw); go_simp; try with_reducible rfl)
                   (try simp only [Act.put, List.setIfInBounds_toArray, List.set_cons_zero, List.set_cons_succ])
                   refine wpAnyH_done (by kernel_rfl) ?_ _
                   have HBV := Lib.hid (HBS.out.drew.trans (hbr3.mono HBS.out.drew.size))
                   clear hHeld hbr hbr2 hbr3 g0 g1 g2 r0 r1 r2 htb hi1
                   go_wp2_with fail
                   go_roundg (n - (s + 1))
                   case measure => have := HGS.out; omega
                   case rel => exact ⟨s + 1, q, by omega, rfl, by go_num, rfl, Lib.hid (by have := HNX.out; rw [show cntI (x.ts.take s) 0 = q from HQ] at this; exact this), HBV.out⟩
               · have hsz : ¬ (s : Int) < (n : Int) := by omega
                 have HLO := Lib.hid (loose_any ((A1, c1), (A2, c2), x) wr hi1 (show x.ts.length ≤ 1000 by rw [HXL.out]; omega))
                 have HE : Hid (cntI x.ts 0 = q) := Lib.hid (by
                   have h : cntI (x.ts.take s) 0 = q := HQ
                   rwa [List.take_of_length_le (by rw [HXL.out]; omega)] at h)
                 unfold tbA tV1 tV2 at HLO
                 simp only at HLO
                 rw [HE.out] at HLO
                 have eq1 : ((q : Int) != (q : Int)) = false := by simp
                 clear hi1
                 go_wp2_with fail
                 refine HLO.out.mono ?_
                 rintro e w9 ⟨rfl, hb9⟩
                 have HBV := Lib.hid (HBS.out.trans (hb9.mono HBS.out.size))
                 clear hb9 g0 g1 g2 r0 r1 r2
                 go_wp2_with fail
                 go_roundg (N - (i + 1))
                 case measure => have := HG.out; omega
                 case rel => exact ⟨i + 1, k, by omega, rfl, by go_num, by go_num, HKN, HBV.out⟩
           · have hy1 : (y != 0) = true := by simpa using hy0
             rw [if_neg hy0] at HSN
             have hkq := HGB.out hy0
             rw [show (busyT (tbs.take i) t).length = k from HKQ] at hkq
             have HKN : Hid ((busyT (tbs.take (i + 1)) t).length = k + 1) := Lib.hid (by rw [HSN.out, List.length_append, show (busyT (tbs.take i) t).length = k from HKQ]; rfl)
             have hkn : k < NQ := by rw [← HNQ.out]; exact (List.getElem?_eq_some_iff.1 hkq).1
             have hk0 : (0 : Int) ≤ (k : Int) := by omega
             have hkz : (k : Int) < (NQ : Int) := by omega
             have hkz2 : ¬ ((NQ : Int) ≤ (k : Int)) := by omega
             have hkz3 : decide ((NQ : Int) ≤ (k : Int)) = false := decide_eq_false hkz2
             have hkz4 : decide (NQ ≤ k) = false := decide_eq_false (by omega)
             have eyy : (y != y) = false := by simp
             obtain ⟨bq, oq, hAq, lbq, hq0⟩ : ∃ bq oq, Aq = some ⟨bq, oq, none⟩ ∧ bq < w8.heap.size ∧ w8.cell? ⟨bq, oq + k, none⟩ = some (.int .i64 y) := by
               obtain ⟨A', c', e, _, h3⟩ := HIQ.out
               injection e with e1 e2 e3
               obtain ⟨b4, o4, e4, h4, h5⟩ := h3 (by rw [HNQ.out]; omega)
               exact ⟨b4, o4, e1.trans e4, h4, h5 k y hkq⟩
             subst hAq
             clear hy0 hkq
             go_wp2_with fail
             refine wp_region_held_drew (S := fun w' => w'.cell? ⟨P, 0, none⟩ = some (.int .i64 (n : Int)) ∧ w'.cell? ⟨P, 1, none⟩ = some (.int .u32 m) ∧ w'.cell? ⟨P, 2, none⟩ = some (v) ∧ w'.cell? ⟨ba, oa + i * 3, none⟩ = some (.int .i64 x.c)) (by kernel_rfl) ?_ (fun hHeld => ?_)
             · exact ⟨r0, r1, r2, g0⟩
             refine wpAnyH_take (i := 0) (oi := ⟨some 64, _, _, _, _, _⟩) (v := ?_) rfl (by kernel_rfl) (by kernel_rfl) (by kernel_rfl) (fun _ _ _ h => h) (Or.inl ⟨by kernel_rfl, ?_⟩) (by assumption) ?_
             rotate_left
             · (intro w hSw; (try dsimp only at hSw); go_simp; try with_reducible rfl)
             (try simp only [Act.put, List.setIfInBounds_toArray, List.set_cons_zero, List.set_cons_succ])
             refine wpAnyH_take (i := 2) (oi := ⟨some 66, _, _, _, _, _⟩) (v := ?_) rfl (by kernel_rfl) (by kernel_rfl) (by kernel_rfl) (fun _ _ _ h => h) (Or.inl ⟨by kernel_rfl, ?_⟩) (by assumption) ?_
             rotate_left
             · (intro w hSw; (try dsimp only at hSw); go_simp; try with_reducible rfl)
             (try simp only [Act.put, List.setIfInBounds_toArray, List.set_cons_zero, List.set_cons_succ])
             refine wpAnyH_take (i := 3) (oi := ⟨some 67, _, _, _, _, _⟩) (v := ?_) rfl (by kernel_rfl) (by kernel_rfl) (by kernel_rfl) (fun _ _ _ h => h) (Or.inl ⟨by kernel_rfl, ?_⟩) (by assumption) ?_
             rotate_left
             · (intro w hSw; (try dsimp only at hSw); go_simp; try with_reducible rfl)
             (try simp only [Act.put, List.setIfInBounds_toArray, List.set_cons_zero, List.set_cons_succ])
             refine wpAnyH_take (i := 4) (oi := ⟨some 68, _, _, _, _, _⟩) (v := ?_) rfl (by kernel_rfl) (by kernel_rfl) (by kernel_rfl) (fun _ _ _ h => h) (Or.inl ⟨by kernel_rfl, ?_⟩) (by assumption) ?_
             rotate_left
             · (intro w hSw; (try dsimp only at hSw); go_simp; try with_reducible rfl)
             (try simp only [Act.put, List.setIfInBounds_toArray, List.set_cons_zero, List.set_cons_succ])
             refine wpAnyH_take (i := 5) (oi := ⟨some 69, _, _, _, _, _⟩) (v := ?_) rfl (by kernel_rfl) (by kernel_rfl) (by kernel_rfl) (fun _ _ _ h => h) (Or.inl ⟨by kernel_rfl, ?_⟩) (by assumption) ?_
             rotate_left
             · (intro w hSw; (try dsimp only at hSw); go_simp; try with_reducible rfl)
             (try simp only [Act.put, List.setIfInBounds_toArray, List.set_cons_zero, List.set_cons_succ])
             refine wpAnyH_take (i := 6) (oi := ⟨some 70, _, _, _, _, _⟩) (v := ?_) rfl (by kernel_rfl) (by kernel_rfl) (by kernel_rfl) (fun _ _ _ h => h) (Or.inl ⟨by kernel_rfl, ?_⟩) (by assumption) ?_
             rotate_left
             · (intro w hSw; (try dsimp only at hSw); go_simp; try with_reducible rfl)
             (try simp only [Act.put, List.setIfInBounds_toArray, List.set_cons_zero, List.set_cons_succ])
             refine wpAnyH_take (i := 7) (oi := ⟨some 71, _, _, _, _, _⟩) (v := ?_) rfl (by kernel_rfl) (by kernel_rfl) (by kernel_rfl) (fun _ _ _ h => h) (Or.inl ⟨by kernel_rfl, ?_⟩) (by assumption) ?_
             rotate_left
             · (intro w hSw; (try dsimp only at hSw); go_simp; try with_reducible rfl)
             (try simp only [Act.put, List.setIfInBounds_toArray, List.set_cons_zero, List.set_cons_succ])
             refine wpAnyH_ready (rs := [1]) (by kernel_rfl) (by simp) ?_
             refine AllReadyH.cons (o := ⟨some 65, _, _, _, _, _⟩) rfl (fun K hK => ?_) AllReadyH.nil
             rw [if_pos (by kernel_rfl)]
             go_simp
             go_at_call 11; refine (HRO.out _ (HKW.out.drew)).mono ?_; rintro e wq ⟨vb, rfl, htb, hbr⟩
             obtain ⟨Ab, cb, rfl, _, _⟩ := htb.form
             refine hK.out _ _ ?_ (fun hHeld => ?_)
             · exact ⟨(hbr.cell (p := ⟨P, 0, none⟩) lP).trans r0, (hbr.cell (p := ⟨P, 1, none⟩) lP).trans r1, (hbr.cell (p := ⟨P, 2, none⟩) lP).trans r2, (hbr.cell (p := ⟨ba, oa + i * 3, none⟩) lba).trans g0⟩
             clear hK K
             (try simp only [Act.put, List.setIfInBounds_toArray, List.set_cons_zero, List.set_cons_succ])
             refine wpAnyH_ready (rs := [8]) (by kernel_rfl) (by simp) ?_
             refine AllReadyH.cons (o := ⟨some 72, _, _, _, _, _⟩) rfl (fun K hK => ?_) AllReadyH.nil
             rw [if_pos (by kernel_rfl)]
             go_simp
             go_at_call 18; refine (HRA.out _ x.c t _ htb ht).mono ?_; rw [HY.out]; rintro e wq2 ⟨rfl, hbr2⟩
             have hbr3 := hbr.trans (hbr2.mono hbr.size)
             refine hK.out _ _ ?_ (fun hHeld => ?_)
             · exact ⟨(hbr3.cell (p := ⟨P, 0, none⟩) lP).trans r0, (hbr3.cell (p := ⟨P, 1, none⟩) lP).trans r1, (hbr3.cell (p := ⟨P, 2, none⟩) lP).trans r2, (hbr3.cell (p := ⟨ba, oa + i * 3, none⟩) lba).trans g0⟩
             clear hK K
             (try simp only [Act.put, List.setIfInBounds_toArray, List.set_cons_zero, List.set_cons_succ])
             refine wpAnyH_take (i := 9) (oi := ⟨some 15, _, _, _, _, _⟩) (v := ?_) rfl (by kernel_rfl) (by kernel_rfl) (by kernel_rfl) (fun _ _ _ h => h) (Or.inl ⟨by kernel_rfl, ?_⟩) (by assumption) ?_
             rotate_left
             · (intro w hSw; (try dsimp only at hSw); go_simp; try with_reducible rfl)
             (try simp only [Act.put, List.setIfInBounds_toArray, List.set_cons_zero, List.set_cons_succ])
             refine wpAnyH_done (by kernel_rfl) ?_ _
             have HBQ := Lib.hid (HBW.out.drew.trans (hbr3.mono HBW.out.drew.size))
             clear hHeld hbr hbr2 hbr3 g0 g1 g2 r0 r1 r2 htb
             have q0 := (HBQ.out.cell (p := ⟨bq, oq + k, none⟩) lbq).trans hq0
             have lP2 : P < w8.heap.size := Nat.lt_of_lt_of_le hPl HK8.out.size
             obtain ⟨r0, r1, r2⟩ := HS.out _ (HK8.out.trans (HBQ.out.mono HK8.out.size))
             go_wp2_with fail
             clear r0 r1 r2
             go_loopg [16, 17] n (fun gg s16 s17 wr => ∃ (s q : Nat), s ≤ n ∧ gg = n - s ∧ s17 = .int .i64 s ∧ s16 = .int .i64 q ∧ Hid (cntI (x.ts.take s) 0 = q) ∧ Below w8.heap.size w8 wr)
             case atStart => exact ⟨0, 0, Nat.zero_le _, by omega, rfl, rfl, rfl, HBQ.out⟩
             case round =>
               obtain ⟨s, q, hs, hgs, rfl, rfl, HQ, hbs⟩ := hrel
               have HGS := Lib.hid hgs
               have HBS := Lib.hid hbs
               have HKS := Lib.hid (HK8.out.trans (hbs.mono HK8.out.size))
               obtain ⟨r0, r1, r2⟩ := HS.out _ HKS.out
               have lP : P < wr.heap.size := Nat.lt_of_lt_of_le hPl HKS.out.size
               obtain ⟨ba, oa, A1, c1, A2, c2, hA, lba, g0, g1, g2, hi1, _⟩ := (HTA8.out.keep hbs).at_ HX.out
               injection hA with hA
               injection hA with e1 e2
               subst e1 e2
               have hqb : q ≤ 64 := by
                 have h1 := cntI_le (x.ts.take s) 0
                 rw [show cntI (x.ts.take s) 0 = q from HQ, List.length_take] at h1
                 omega
               clear hgs hbs
               by_cases hsn : s < n
               · have hs0 : (0 : Int) ≤ (s : Int) := by omega
                 have hsz : (s : Int) < (n : Int) := by omega
                 obtain ⟨z, hz⟩ := exP_at (xs := x.ts) (k := s) (by rw [HXL.out]; exact hsn)
                 have HZ := Lib.hid (show atT tbs x.c (s : Int) = z by
                   rw [at_self hnd HX.out]
                   unfold ownerT
                   rw [if_neg (by omega), Int.toNat_natCast, hz, Option.getD_some])
                 have HNX := Lib.hid (cnt_snoc hz 0)
                 have hs64 : Int64 (s : Int) := ⟨by omega, by omega⟩
                 clear hz
                 by_cases he : z = 0
                 · have he1 : (z == 0) = true := by simpa using he
                   rw [decide_eq_true he] at HNX
                   clear he
                   go_wp2_with fail
                   refine wp_region_held_drew (S := fun w' => w'.cell? ⟨P, 0, none⟩ = some (.int .i64 (n : Int)) ∧ w'.cell? ⟨P, 1, none⟩ = some (.int .u32 m) ∧ w'.cell? ⟨P, 2, none⟩ = some (v) ∧ w'.cell? ⟨ba, oa + i * 3, none⟩ = some (.int .i64 x.c)) (by kernel_rfl) ?_ (fun hHeld => ?_)
                   · exact ⟨r0, r1, r2, g0⟩
                   refine wpAnyH_take (i := 0) (oi := ⟨some 95, _, _, _, _, _⟩) (v := ?_) rfl (by kernel_rfl) (by kernel_rfl) (by kernel_rfl) (fun _ _ _ h => h) (Or.inl ⟨by kernel_rfl, ?_⟩) (by assumption) ?_
                   rotate_left
                   · (intro w hSw; (try dsimp only at hSw); go_simp; try with_reducible rfl)
                   (try simp only [Act.put, List.setIfInBounds_toArray, List.set_cons_zero, List.set_cons_succ])
                   refine wpAnyH_take (i := 2) (oi := ⟨some 97, _, _, _, _, _⟩) (v := ?_) rfl (by kernel_rfl) (by kernel_rfl) (by kernel_rfl) (fun _ _ _ h => h) (Or.inl ⟨by kernel_rfl, ?_⟩) (by assumption) ?_
                   rotate_left
                   · (intro w hSw; (try dsimp only at hSw); go_simp; try with_reducible rfl)
                   (try simp only [Act.put, List.setIfInBounds_toArray, List.set_cons_zero, List.set_cons_succ])
                   refine wpAnyH_take (i := 3) (oi := ⟨some 98, _, _, _, _, _⟩) (v := ?_) rfl (by kernel_rfl) (by kernel_rfl) (by kernel_rfl) (fun _ _ _ h => h) (Or.inl ⟨by kernel_rfl, ?_⟩) (by assumption) ?_
                   rotate_left
                   · (intro w hSw; (try dsimp only at hSw); go_simp; try with_reducible rfl)
                   (try simp only [Act.put, List.setIfInBounds_toArray, List.set_cons_zero, List.set_cons_succ])
                   refine wpAnyH_take (i := 4) (oi := ⟨some 99, _, _, _, _, _⟩) (v := ?_) rfl (by kernel_rfl) (by kernel_rfl) (by kernel_rfl) (fun _ _ _ h => h) (Or.inl ⟨by kernel_rfl, ?_⟩) (by assumption) ?_
                   rotate_left
                   · (intro w hSw; (try dsimp only at hSw); go_simp; try with_reducible rfl)
                   (try simp only [Act.put, List.setIfInBounds_toArray, List.set_cons_zero, List.set_cons_succ])
                   refine wpAnyH_take (i := 5) (oi := ⟨some 100, _, _, _, _, _⟩) (v := ?_) rfl (by kernel_rfl) (by kernel_rfl) (by kernel_rfl) (fun _ _ _ h => h) (Or.inl ⟨by kernel_rfl, ?_⟩) (by assumption) ?_
                   rotate_left
                   · (intro w hSw; (try dsimp only at hSw); go_simp; try with_reducible rfl)
                   (try simp only [Act.put, List.setIfInBounds_toArray, List.set_cons_zero, List.set_cons_succ])
                   refine wpAnyH_take (i := 6) (oi := ⟨some 101, _, _, _, _, _⟩) (v := ?_) rfl (by kernel_rfl) (by kernel_rfl) (by kernel_rfl) (fun _ _ _ h => h) (Or.inl ⟨by kernel_rfl, ?_⟩) (by assumption) ?_
                   rotate_left
                   · (intro w hSw; (try dsimp only at hSw); go_simp; try with_reducible rfl)
                   (try simp only [Act.put, List.setIfInBounds_toArray, List.set_cons_zero, List.set_cons_succ])
                   refine wpAnyH_take (i := 7) (oi := ⟨some 102, _, _, _, _, _⟩) (v := ?_) rfl (by kernel_rfl) (by kernel_rfl) (by kernel_rfl) (fun _ _ _ h => h) (Or.inl ⟨by kernel_rfl, ?_⟩) (by assumption) ?_
                   rotate_left
                   · (intro w hSw; (try dsimp only at hSw); go_simp; try with_reducible rfl)
                   (try simp only [Act.put, List.setIfInBounds_toArray, List.set_cons_zero, List.set_cons_succ])
                   refine wpAnyH_ready (rs := [1]) (by kernel_rfl) (by simp) ?_
                   refine AllReadyH.cons (o := ⟨some 96, _, _, _, _, _⟩) rfl (fun K hK => ?_) AllReadyH.nil
                   rw [if_pos (by kernel_rfl)]
                   go_simp
                   go_at_call 11; refine (HRO.out _ (HKS.out.drew)).mono ?_; rintro e wq ⟨vb, rfl, htb, hbr⟩
                   obtain ⟨Ab, cb, rfl, _, _⟩ := htb.form
                   refine hK.out _ _ ?_ (fun hHeld => ?_)
                   · exact ⟨(hbr.cell (p := ⟨P, 0, none⟩) lP).trans r0, (hbr.cell (p := ⟨P, 1, none⟩) lP).trans r1, (hbr.cell (p := ⟨P, 2, none⟩) lP).trans r2, (hbr.cell (p := ⟨ba, oa + i * 3, none⟩) lba).trans g0⟩
                   clear hK K
                   (try simp only [Act.put, List.setIfInBounds_toArray, List.set_cons_zero, List.set_cons_succ])
                   refine wpAnyH_ready (rs := [8]) (by kernel_rfl) (by simp) ?_
                   refine AllReadyH.cons (o := ⟨some 103, _, _, _, _, _⟩) rfl (fun K hK => ?_) AllReadyH.nil
                   rw [if_pos (by kernel_rfl)]
                   go_simp
                   go_at_call 18; refine (HRA.out _ x.c (s : Int) _ htb hs64).mono ?_; rw [HZ.out]; rintro e wq2 ⟨rfl, hbr2⟩
                   have hbr3 := hbr.trans (hbr2.mono hbr.size)
                   refine hK.out _ _ ?_ (fun hHeld => ?_)
                   · exact ⟨(hbr3.cell (p := ⟨P, 0, none⟩) lP).trans r0, (hbr3.cell (p := ⟨P, 1, none⟩) lP).trans r1, (hbr3.cell (p := ⟨P, 2, none⟩) lP).trans r2, (hbr3.cell (p := ⟨ba, oa + i * 3, none⟩) lba).trans g0⟩
                   clear hK K
                   (try simp only [Act.put, List.setIfInBounds_toArray, List.set_cons_zero, List.set_cons_succ])
                   refine wpAnyH_take (i := 9) (oi := ⟨some 104, _, _, _, _, _⟩) (v := ?_) rfl (by kernel_rfl) (by kernel_rfl) (by kernel_rfl) (fun _ _ _ h => h) (Or.inl ⟨by kernel_rfl, ?_⟩) (by assumption) ?_
                   rotate_left
                   · (intro w hSw; (try dsimp only at hSw); go_simp; try with_reducible rfl)
                   (try simp only [Act.put, List.setIfInBounds_toArray, List.set_cons_zero, List.set_cons_succ])
                   refine wpAnyH_done (by kernel_rfl) ?_ _
                   have HBV := Lib.hid (HBS.out.drew.trans (hbr3.mono HBS.out.drew.size))
                   clear hHeld hbr hbr2 hbr3 g0 g1 g2 r0 r1 r2 htb hi1
                   go_wp2_with fail
                   go_roundg (n - (s + 1))
                   case measure => have := HGS.out; omega
                   case rel => exact ⟨s + 1, q + 1, by omega, rfl, by go_num, by go_num, Lib.hid (by have := HNX.out; rw [show cntI (x.ts.take s) 0 = q from HQ] at this; exact this), HBV.out⟩
                 · have he1 : (z == 0) = false := by simpa using he
                   rw [decide_eq_false he] at HNX
                   clear he
                   go_wp2_with fail
                   refine wp_region_held_drew (S := fun w' => w'.cell? ⟨P, 0, none⟩ = some (.int .i64 (n : Int)) ∧ w'.cell? ⟨P, 1, none⟩ = some (.int .u32 m) ∧ w'.cell? ⟨P, 2, none⟩ = some (v) ∧ w'.cell? ⟨ba, oa + i * 3, none⟩ = some (.int .i64 x.c)) (by kernel_rfl) ?_ (fun hHeld => ?_)
                   · exact ⟨r0, r1, r2, g0⟩
                   refine wpAnyH_take (i := 0) (oi := ⟨some 95, _, _, _, _, _⟩) (v := ?_) rfl (by kernel_rfl) (by kernel_rfl) (by kernel_rfl) (fun _ _ _ h => h) (Or.inl ⟨by kernel_rfl, ?_⟩) (by assumption) ?_
                   rotate_left
                   · (intro w hSw; (try dsimp only at hSw); go_simp; try with_reducible rfl)
                   (try simp only [Act.put, List.setIfInBounds_toArray, List.set_cons_zero, List.set_cons_succ])
                   refine wpAnyH_take (i := 2) (oi := ⟨some 97, _, _, _, _, _⟩) (v := ?_) rfl (by kernel_rfl) (by kernel_rfl) (by kernel_rfl) (fun _ _ _ h => h) (Or.inl ⟨by kernel_rfl, ?_⟩) (by assumption) ?_
                   rotate_left
                   · (intro w hSw; (try dsimp only at hSw); go_simp; try with_reducible rfl)
                   (try simp only [Act.put, List.setIfInBounds_toArray, List.set_cons_zero, List.set_cons_succ])
                   refine wpAnyH_take (i := 3) (oi := ⟨some 98, _, _, _, _, _⟩) (v := ?_) rfl (by kernel_rfl) (by kernel_rfl) (by kernel_rfl) (fun _ _ _ h => h) (Or.inl ⟨by kernel_rfl, ?_⟩) (by assumption) ?_
                   rotate_left
                   · (intro w hSw; (try dsimp only at hSw); go_simp; try with_reducible rfl)
                   (try simp only [Act.put, List.setIfInBounds_toArray, List.set_cons_zero, List.set_cons_succ])
                   refine wpAnyH_take (i := 4) (oi := ⟨some 99, _, _, _, _, _⟩) (v := ?_) rfl (by kernel_rfl) (by kernel_rfl) (by kernel_rfl) (fun _ _ _ h => h) (Or.inl ⟨by kernel_rfl, ?_⟩) (by assumption) ?_
                   rotate_left
                   · (intro w hSw; (try dsimp only at hSw); go_simp; try with_reducible rfl)
                   (try simp only [Act.put, List.setIfInBounds_toArray, List.set_cons_zero, List.set_cons_succ])
                   refine wpAnyH_take (i := 5) (oi := ⟨some 100, _, _, _, _, _⟩) (v := ?_) rfl (by kernel_rfl) (by kernel_rfl) (by kernel_rfl) (fun _ _ _ h => h) (Or.inl ⟨by kernel_rfl, ?_⟩) (by assumption) ?_
                   rotate_left
                   · (intro w hSw; (try dsimp only at hSw); go_simp; try with_reducible rfl)
                   (try simp only [Act.put, List.setIfInBounds_toArray, List.set_cons_zero, List.set_cons_succ])
                   refine wpAnyH_take (i := 6) (oi := ⟨some 101, _, _, _, _, _⟩) (v := ?_) rfl (by kernel_rfl) (by kernel_rfl) (by kernel_rfl) (fun _ _ _ h => h) (Or.inl ⟨by kernel_rfl, ?_⟩) (by assumption) ?_
                   rotate_left
                   · (intro w hSw; (try dsimp only at hSw); go_simp; try with_reducible rfl)
                   (try simp only [Act.put, List.setIfInBounds_toArray, List.set_cons_zero, List.set_cons_succ])
                   refine wpAnyH_take (i := 7) (oi := ⟨some 102, _, _, _, _, _⟩) (v := ?_) rfl (by kernel_rfl) (by kernel_rfl) (by kernel_rfl) (fun _ _ _ h => h) (Or.inl ⟨by kernel_rfl, ?_⟩) (by assumption) ?_
                   rotate_left
                   · (intro w hSw; (try dsimp only at hSw); go_simp; try with_reducible rfl)
                   (try simp only [Act.put, List.setIfInBounds_toArray, List.set_cons_zero, List.set_cons_succ])
                   refine wpAnyH_ready (rs := [1]) (by kernel_rfl) (by simp) ?_
                   refine AllReadyH.cons (o := ⟨some 96, _, _, _, _, _⟩) rfl (fun K hK => ?_) AllReadyH.nil
                   rw [if_pos (by kernel_rfl)]
                   go_simp
                   go_at_call 11; refine (HRO.out _ (HKS.out.drew)).mono ?_; rintro e wq ⟨vb, rfl, htb, hbr⟩
                   obtain ⟨Ab, cb, rfl, _, _⟩ := htb.form
                   refine hK.out _ _ ?_ (fun hHeld => ?_)
                   · exact ⟨(hbr.cell (p := ⟨P, 0, none⟩) lP).trans r0, (hbr.cell (p := ⟨P, 1, none⟩) lP).trans r1, (hbr.cell (p := ⟨P, 2, none⟩) lP).trans r2, (hbr.cell (p := ⟨ba, oa + i * 3, none⟩) lba).trans g0⟩
                   clear hK K
                   (try simp only [Act.put, List.setIfInBounds_toArray, List.set_cons_zero, List.set_cons_succ])
                   refine wpAnyH_ready (rs := [8]) (by kernel_rfl) (by simp) ?_
                   refine AllReadyH.cons (o := ⟨some 103, _, _, _, _, _⟩) rfl (fun K hK => ?_) AllReadyH.nil
                   rw [if_pos (by kernel_rfl)]
                   go_simp
                   go_at_call 18; refine (HRA.out _ x.c (s : Int) _ htb hs64).mono ?_; rw [HZ.out]; rintro e wq2 ⟨rfl, hbr2⟩
                   have hbr3 := hbr.trans (hbr2.mono hbr.size)
                   refine hK.out _ _ ?_ (fun hHeld => ?_)
                   · exact ⟨(hbr3.cell (p := ⟨P, 0, none⟩) lP).trans r0, (hbr3.cell (p := ⟨P, 1, none⟩) lP).trans r1, (hbr3.cell (p := ⟨P, 2, none⟩) lP).trans r2, (hbr3.cell (p := ⟨ba, oa + i * 3, none⟩) lba).trans g0⟩
                   clear hK K
                   (try simp only [Act.put, List.setIfInBounds_toArray, List.set_cons_zero, List.set_cons_succ])
                   refine wpAnyH_take (i := 9) (oi := ⟨some 104, _, _, _, _, _⟩) (v := ?_) rfl (by kernel_rfl) (by kernel_rfl) (by kernel_rfl) (fun _ _ _ h => h) (Or.inl ⟨by kernel_rfl, ?_⟩) (by assumption) ?_
                   rotate_left
                   · (intro w hSw; (try dsimp only at hSw); go_simp; try with_reducible rfl)
                   (try simp only [Act.put, List.setIfInBounds_toArray, List.set_cons_zero, List.set_cons_succ])
                   refine wpAnyH_done (by kernel_rfl) ?_ _
                   have HBV := Lib.hid (HBS.out.drew.trans (hbr3.mono HBS.out.drew.size))
                   clear hHeld hbr hbr2 hbr3 g0 g1 g2 r0 r1 r2 htb hi1
                   go_wp2_with fail
                   go_roundg (n - (s + 1))
                   case measure => have := HGS.out; omega
                   case rel => exact ⟨s + 1, q, by omega, rfl, by go_num, rfl, Lib.hid (by have := HNX.out; rw [show cntI (x.ts.take s) 0 = q from HQ] at this; exact this), HBV.out⟩
               · have hsz : ¬ (s : Int) < (n : Int) := by omega
                 have HLO := Lib.hid (loose_any ((A1, c1), (A2, c2), x) wr hi1 (show x.ts.length ≤ 1000 by rw [HXL.out]; omega))
                 have HE : Hid (cntI x.ts 0 = q) := Lib.hid (by
                   have h : cntI (x.ts.take s) 0 = q := HQ
                   rwa [List.take_of_length_le (by rw [HXL.out]; omega)] at h)
                 unfold tbA tV1 tV2 at HLO
                 simp only at HLO
                 rw [HE.out] at HLO
                 have eq1 : ((q : Int) != (q : Int)) = false := by simp
                 clear hi1
                 go_wp2_with fail
                 refine HLO.out.mono ?_
                 rintro e w9 ⟨rfl, hb9⟩
                 have HBV := Lib.hid (HBS.out.trans (hb9.mono HBS.out.size))
                 clear hb9 g0 g1 g2 r0 r1 r2
                 go_wp2_with fail
                 go_roundg (N - (i + 1))
                 case measure => have := HG.out; omega
                 case rel => exact ⟨i + 1, k + 1, by omega, rfl, by go_num, by go_num, HKN, HBV.out⟩
         · have hltz : ¬ (i : Int) < (N : Int) := by omega
           have ekq : k = NQ := by
             have h : (busyT (tbs.take i) t).length = k := HKQ
             rw [List.take_of_length_le (by rw [HN.out]; omega), HNQ.out] at h
             exact h.symm
           have ek : ((k : Int) == (NQ : Int)) = true := by simp [ekq]
           clear hbw ekq
           go_wp2_with fail
           refine (HAW.out _).mono ?_
           rintro e w9 ⟨rfl, hb9⟩
           have HBE := Lib.hid (HKW.out.trans (hb9.mono HKW.out.size))
           go_wp2_with fail
           go_ret
           exact ⟨rfl, HB1.out.trans (HBE.out.mono HB1.out.size)⟩
    · have HNR := Lib.hid (fun W hk => (HRI.out hL W hk).2 hr)
      clear HRI HLI hlit hr hL ho
      go_enter Try.func5, Try.ntmps5
      go_wp2_with fail
      refine (HYL.out _ HK1.out).mono ?_
      rintro e w2 ⟨rfl, hb2⟩
      have HK2 := Lib.hid (HK1.out.trans (hb2.mono HK1.out.size))
      clear r0 r1 r2
      obtain ⟨r0, r1, r2⟩ := HS.out _ HK2.out
      clear hb2
      go_wp2_with fail
      refine (HNR.out _ HK2.out).mono ?_
      rintro e w3 ⟨rfl, hb3⟩
      have HK3 := Lib.hid (HK2.out.trans (hb3.mono HK2.out.size))
      clear r0 r1 r2
      obtain ⟨r0, r1, r2⟩ := HS.out _ HK3.out
      clear hb3
      go_wp2_with fail
      refine (HAW.out _).mono ?_
      rintro e w4 ⟨rfl, hb4⟩
      have HK4 := Lib.hid (HK3.out.trans (hb4.mono HK3.out.size))
      clear hb4
      go_wp2_with fail
      go_ret
      exact ⟨rfl, HB1.out.trans (HK4.out.mono HB1.out.size)⟩
  · have HNL := Lib.hid (fun W hk => (HLI.out W hk).2 hlit)
    clear HRI hlit
    go_enter Try.func5, Try.ntmps5
    go_wp2_with fail
    refine (HNL.out _ HK1.out).mono ?_
    rintro e w2 ⟨rfl, hb2⟩
    have HK2 := Lib.hid (HK1.out.trans (hb2.mono HK1.out.size))
    clear hb2
    go_wp2_with fail
    refine (HAW.out _).mono ?_
    rintro e w3 ⟨rfl, hb3⟩
    have HK3 := Lib.hid (HK2.out.trans (hb3.mono HK2.out.size))
    clear hb3
    go_wp2_with fail
    go_ret
    exact ⟨rfl, HB1.out.trans (HK3.out.mono HB1.out.size)⟩
end Go.Proofs.Ytpjmdnhoiobedaa
