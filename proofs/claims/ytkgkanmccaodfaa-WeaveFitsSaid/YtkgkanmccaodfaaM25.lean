/-
  Pieces and places held against each other.
  Conditions: the slices read as pieces.
-/
import Derived.Test.YtkgkanmccaodfaaM24
import Derived.Test.YtkgkanmccaodfaaM19
import Derived.Test.YtkgkanmccaodfaaM20
import Derived.Test.YtkgkanmccaodfaaM21
import Derived.Test.YtkgkanmccaodfaaM02

/-
  How many ticks a plan has, and why a want is not woven, as the program tells it.
  Conditions: the slice reads as places; the numbers are of their kinds.
-/
set_option linter.unusedVariables false
set_option linter.unusedSimpArgs false
namespace Go.Proofs.Ytkgkanmccaodfaa
open Go.RowKit

theorem ticks_len {m : Nat} (h : m < 65536) : (ticksI m 64).length = coresN m := by rw [ticks_top h, ticksI_length]; rfl
theorem loom_ok {f : Int} {m : Nat} {l : List Pl} (hr : Right f m l) : LoomOk f.toNat (coresN m) (gapT f m l) (rmN f m l) (ticksI m 64) := by
  have hm := hr.m16
  have hf := hr.f64
  have hf2 := hr.f2
  refine ⟨by omega, ticks_len hm, cntT_le m 16, fun i x hx => ?_, fun c hc t ht => ?_, fun i j x y hij hx hy => ?_, fun c _ => gap_lt f m l c, fun c hc => ?_, fun c _ t ht => (gap_bit ht).2.1⟩
  · obtain ⟨d, rfl, hd, hb⟩ := ticks_is hx
    refine ⟨d, ?_, rfl⟩
    rcases Nat.lt_or_ge d 16 with h1 | h1
    · exact h1
    · rw [Nat.testBit_lt_two_pow (Nat.lt_of_lt_of_le hm (show 65536 ≤ 2 ^ d from Nat.pow_le_pow_right (n := 2) (by decide) h1))] at hb
      cases hb
  · exact ticks_has (by omega) (gap_bit ht).1
  · obtain ⟨a, rfl, ha⟩ := ticksI_get hx
    obtain ⟨b, rfl, hb⟩ := ticksI_get hy
    obtain ⟨_, _, h1⟩ := (tick_iff m i a).1 ha
    obtain ⟨_, _, h2⟩ := (tick_iff m j b).1 hb
    rcases Nat.lt_or_ge a b with h3 | h3
    · omega
    · have := cntT_mono m h3
      omega
  · have := (hr.rm hc).2.1
    omega
theorem loomMostI_any {f : Int} {m : Nat} {l : List Pl} (hr : Right f m l) (A : Option Addr) (n cA : Nat) (hn : coresN m = n) (w : World) (hv : IntsAt w (.slice A n cA) (ticksI m 64)) :
    Calls Try.prog 28 #[.agg (loomC f (.slice A n cA) (gapT f m l) (rmN f m l)), .int .i64 0] w (RetB (.int .i64 (mostT (gapT f m l) (rmN f m l) 0 : Nat)) w) := by
  subst hn
  have hf2 := hr.f2
  have := loomMost_any f.toNat A (coresN m) cA (gapT f m l) (rmN f m l) (ticksI m 64) (loom_ok hr) 0 w (by omega) hv
  unfold loomA at this
  rwa [Int.toNat_of_nonneg (by omega)] at this

set_option maxRecDepth 100000 in
set_option maxHeartbeats 8000000 in
theorem wvMost_any (f : Int) (m : Nat) (v : Value) (l : List Pl) (w : World) (h : PlsAt w v l) (hL : LightL l) (hm : m < 4294967296) :
    Calls Try.prog 9 #[planA f m v] w (fun e w' => ∃ k : Nat, e = .returned (.int .i64 (k : Int)) ∧ (Right f m l → k = mostT (gapT f m l) (rmN f m l) 0) ∧ (¬ Right f m l → k = 0) ∧ Below w.heap.size w w') := by
  have HPC := Lib.hid (fun w h => planCheck_any f m v l w h hL.wide hm)
  have HLO := Lib.hid (fun hr W h => loomOf_any f m v l W h hL hr)
  have HLM := Lib.hid (@loomMostI_any f m l)
  have HH := Lib.hid h
  have HTK := Lib.hid (@ticks_len m)
  unfold planA at HPC HLO
  obtain ⟨w1, P, hw1, hP, hPl, hb1, hbox⟩ := box_any w #[.int .i64 f, .int .u32 m, v] 25
  have HB1 := Lib.hid hb1
  have HBOX := Lib.hid hbox
  obtain ⟨r0, r1, r2⟩ := three_heads hbox
  clear h hL hm hb1 hbox
  unfold planA
  go_enter Try.func9, Try.ntmps9
  go_wp2_with fail
  refine (HPC.out _ (HH.out.keep HB1.out)).mono ?_
  rintro e w2 ⟨E, rfl, hE, hiff, hb2⟩
  have HB2 := Lib.hid (HB1.out.trans (hb2.mono HB1.out.size))
  have HBX2 := Lib.hid (keep_block HBOX.out hb2)
  have HIF := Lib.hid hiff
  clear hb2 hiff r0 r1 r2 hw1 hP
  rcases hE with rfl | rfl
  · obtain ⟨r0, r1, r2⟩ := three_heads HBX2.out
    have HRT := Lib.hid (HIF.out.1 rfl)
    go_wp2_with fail
    refine (HLO.out HRT.out _ (HH.out.keep HB2.out)).mono ?_
    rintro e w3 ⟨A, n, c, rfl, hn, hv3, hb3⟩
    have HB3 := Lib.hid (HB2.out.trans (hb3.mono HB2.out.size))
    have HM3 := Lib.hid (HLM.out HRT.out A n c (by rw [← hn]; exact (HTK.out HRT.out.m16).symm) w3 hv3)
    obtain ⟨L, hL⟩ : ∃ L, loomC f (.slice A n c) (gapT f m l) (rmN f m l) = L := ⟨_, rfl⟩
    rw [hL] at HM3 ⊢
    clear hn hv3 hb3 hL r0 r1 r2
    go_wp2_with fail
    refine HM3.out.mono ?_
    rintro e w4 ⟨rfl, hb4⟩
    have HB4 := Lib.hid (HB3.out.trans (hb4.mono HB3.out.size))
    clear hb4
    go_wp2_with fail
    go_ret
    exact ⟨_, rfl, fun _ => rfl, fun hn => absurd HRT.out hn, HB4.out⟩
  · have HNR : Hid (¬ Right f m l) := Lib.hid (fun h => absurd (HIF.out.2 h) (by decide))
    go_wp2_with fail
    go_ret
    exact ⟨0, rfl, fun h => absurd h HNR.out, fun _ => rfl, HB2.out⟩

set_option maxRecDepth 100000 in
set_option maxHeartbeats 16000000 in
theorem wvCheck_any (f : Int) (m : Nat) (v : Value) (l : List Pl) (u s : Int) (w : World) (h : PlsAt w v l) (hL : LightL l) (hm : m < 4294967296) (hu : Int64 u) (hs : Int64 s) :
    Calls Try.prog 36 #[planA f m v, .agg #[.int .i64 u, .int .i64 s]] w (fun e w' => ∃ E : Int, e = .returned (.int .i64 E) ∧ Why21 f m l (u, s) E ∧ Below w.heap.size w w') := by
  have mixed : Try.prog.follows .mixedOrders = true := by kernel_rfl
  have HPC := Lib.hid (fun w h => planCheck_any f m v l w h hL.wide hm)
  have HOC := Lib.hid (fun vw W h => check_any f vw [(u, s)] W h (fun p hp => by rw [List.mem_singleton] at hp; subst hp; exact ⟨hu, hs⟩))
  have HFD := Lib.hid (fun W h => find_any f m v l u W h (by have := hL.len; omega) (fun x hx => (hL.ok x hx).2))
  have HFI := Lib.hid (fun (hr : Right f m l) (h1 : 1 ≤ s) W h => firstP_yes f m v l s W h hL hr h1)
  have HSP := Lib.hid (fun W h => splits_any f m v l W h (by have := hL.len; omega))
  have HCO := Lib.hid (fun W => cores_any f m v W hm)
  have HMO := Lib.hid (fun W h => wvMost_any f m v l W h hL hm)
  have HH := Lib.hid h
  have hsp : splitsN l ≤ 300 := Nat.le_trans (List.countP_le_length) hL.len
  unfold RetFind at HFD
  unfold planA at HPC HFD HFI HSP HCO HMO
  unfold plA at HFD
  obtain ⟨w1, P, hw1, hP, hPl, hb1, hbox⟩ := box_any w #[.int .i64 f, .int .u32 m, v] 25
  obtain ⟨w2, Q, hw2, hQ, hQl, hb2, hqox⟩ := box_any w1 #[.int .i64 u, .int .i64 s] 35
  have HB2 := Lib.hid (hb1.trans (hb2.mono hb1.size))
  have HPB := Lib.hid (keep_block hbox hb2)
  have HQB := Lib.hid hqox
  have HSA : Hid (∀ W : World, Below w2.heap.size w2 W → W.cell? ⟨P, 0, none⟩ = some (.int .i64 f) ∧ W.cell? ⟨P, 1, none⟩ = some (.int .u32 m) ∧ W.cell? ⟨P, 2, none⟩ = some (v) ∧ W.cell? ⟨Q, 0, none⟩ = some (.int .i64 u) ∧ W.cell? ⟨Q, 1, none⟩ = some (.int .i64 s)) := Lib.hid (fun W hk => by
    obtain ⟨a, b, c⟩ := three_heads (keep_block HPB.out hk)
    obtain ⟨d, e⟩ := two_heads (keep_block HQB.out hk)
    exact ⟨a, b, c, d, e⟩)
  have HPL : Hid (∀ W : World, Below w2.heap.size w2 W → PlsAt W v l) := Lib.hid (fun W hk => HH.out.keep (HB2.out.trans (hk.mono HB2.out.size)))
  obtain ⟨r0, r1, r2, q0, q1⟩ := HSA.out w2 (Below.refl _ _)
  unfold planA
  clear h hb1 hb2 hbox hqox hL hu hs hm
  go_enter Try.func36, Try.ntmps36
  go_wp2_with fail
  refine (HPC.out _ (HPL.out _ (Below.refl _ _))).mono ?_
  rintro e w3 ⟨E, rfl, hE, hiff, hb3⟩
  have HK3 := Lib.hid hb3
  have HIF := Lib.hid hiff
  clear hb3 hiff r0 r1 r2 q0 q1 hw1 hw2 hP hQ
  rcases hE with rfl | rfl
  · have HRT := Lib.hid (HIF.out.1 rfl)
    obtain ⟨E2, hE2⟩ : ∃ E2, chkT f [(u, s)] = E2 := ⟨_, rfl⟩
    rw [hE2] at HOC
    have HE2 := Lib.hid hE2
    have HA0 : Hid (Below w2.heap.size w2 (w3.alloc (.cells #[.int .i64 u, .int .i64 s] 35))) := Lib.hid (HK3.out.alloc HK3.out.size _)
    have HA1 := Lib.hid (one_span w3 u s)
    obtain ⟨r0, r1, r2, q0, q1⟩ := HSA.out w3 HK3.out
    clear hE2
    go_wp2_with fail
    refine (HOC.out _ _ HA1.out).mono ?_
    rintro e w4 ⟨rfl, hb4⟩
    have HK4 := Lib.hid (HA0.out.trans (hb4.mono HA0.out.size))
    clear hb4 r0 r1 r2 q0 q1
    by_cases he : E2 = 0
    · subst he
      obtain ⟨r0, r1, r2, q0, q1⟩ := HSA.out w4 HK4.out
      have h1s : 1 ≤ s := ((WOk.of_chk HE2.out).2.all _ (List.mem_singleton.2 rfl)).2.1
      go_wp2_with fail
      refine (HFD.out _ (HPL.out _ HK4.out)).mono ?_
      rintro e w5 ⟨v5, rfl, hpc5, hb5⟩
      obtain ⟨A5, c5, rfl, _⟩ := hpc5
      obtain ⟨n5, hn5⟩ : ∃ n5, ((findU l u).getD zeroPl).ps.length = n5 := ⟨_, rfl⟩
      obtain ⟨q5, hq5⟩ : ∃ q5, (findU l u).isSome = q5 := ⟨_, rfl⟩
      have HQ5 := Lib.hid hq5
      rw [hn5, hq5]
      generalize ((findU l u).getD zeroPl).u = xu
      generalize ((findU l u).getD zeroPl).s = xs
      generalize ((findU l u).getD zeroPl).c = xc
      have HK5 := Lib.hid (HK4.out.trans (hb5.mono HK4.out.size))
      obtain ⟨w6, N, hw6, hN, hNl, hb6, hnox⟩ := box_any w5 #[.int .i64 0, .int .i64 0, .int .i64 0, .slice none 0 0] 38
      have HN := Lib.hid hnox
      have HK7 : Hid (Below w2.heap.size w2 (w6.setRow N #[.int .i64 xu, .int .i64 xs, .int .i64 xc, .slice A5 n5 c5])) := Lib.hid (below_row (HK5.out.trans (hb6.mono HK5.out.size)) (by have := HK5.out.size; omega) _)
      clear hb5 hb6 hnox hn5 hq5 r0 r1 r2 q0 q1
      obtain ⟨w7, hw7⟩ : ∃ w7, w6.setRow N #[.int .i64 xu, .int .i64 xs, .int .i64 xc, .slice A5 n5 c5] = w7 := ⟨_, rfl⟩
      rw [hw7] at HK7
      have HBE7 := Lib.hid (HB2.out.trans (HK7.out.mono HB2.out.size))
      obtain ⟨r0, r1, r2, q0, q1⟩ := HSA.out w7 HK7.out
      cases q5 with
      | true =>
        have HANY : Hid (anyB l [(u, s)] = true) := Lib.hid (by unfold anyB; simpa using HQ5.out)
        go_wp2_with (refine wpList_store_row rfl _ _ _ rfl N #[.int .i64 xu, .int .i64 xs, .int .i64 xc, .slice A5 n5 c5] rfl rfl 38 _ HN.out (Try.sizePl _ _ _ _) rfl (one4 _ _ _ _ _ _) ?_)
        go_ret
        exact ⟨11, rfl, .inl ⟨by decide, .inr (.inr (.inl ⟨HRT.out, HE2.out, HANY.out, rfl⟩))⟩, HBE7.out⟩
      | false =>
        have HANY : Hid (anyB l [(u, s)] = false) := Lib.hid (by unfold anyB; simpa using HQ5.out)
        have HGO : Hid (Goes f m l [(u, s)]) := Lib.hid ⟨HRT.out, HE2.out, HANY.out⟩
        have HFI := Lib.hid (HFI.out HRT.out h1s)
        go_wp2_with (refine wpList_store_row rfl _ _ _ rfl N #[.int .i64 xu, .int .i64 xs, .int .i64 xc, .slice A5 n5 c5] rfl rfl 38 _ HN.out (Try.sizePl _ _ _ _) rfl (one4 _ _ _ _ _ _) ?_)
        refine (HFI.out _ (HPL.out _ HK7.out)).mono ?_
        rintro e w8 ⟨rfl, hb8⟩
        have HK8 := Lib.hid (HK7.out.trans (hb8.mono HK7.out.size))
        have hkd := HK8.out.drew
        generalize coreV (firstR f m l s) = cv
        clear hb8 r0 r1 r2 q0 q1
        obtain ⟨o, ho⟩ : ∃ o, firstR f m l s = o := ⟨_, rfl⟩
        have HO := Lib.hid ho
        rw [ho]
        clear ho
        cases o with
        | some c0 =>
          go_wp2_with fail
          refine wp_region_held_drew (S := fun w' => w'.cell? ⟨P, 0, none⟩ = some (.int .i64 f) ∧ w'.cell? ⟨P, 1, none⟩ = some (.int .u32 m) ∧ w'.cell? ⟨P, 2, none⟩ = some (v) ∧ w'.cell? ⟨Q, 0, none⟩ = some (.int .i64 u) ∧ w'.cell? ⟨Q, 1, none⟩ = some (.int .i64 s)) (by kernel_rfl) ?_ (fun hHeld => ?_)
          · exact HSA.out _ hkd
          refine wpAnyH_take (i := 0) (oi := ⟨some 39, _, _, _, _, _⟩) (v := ?_) rfl (by kernel_rfl) (by kernel_rfl) (by kernel_rfl) (fun _ _ _ h => h) (Or.inl ⟨by kernel_rfl, ?_⟩) (by assumption) ?_
          rotate_left
          · (intro w hSw; (try dsimp only at hSw); go_simp; try with_reducible rfl)
          (try simp only [Act.put, List.setIfInBounds_toArray, List.set_cons_zero, List.set_cons_succ])
          refine wpAnyH_take (i := 1) (oi := ⟨some 40, _, _, _, _, _⟩) (v := ?_) rfl (by kernel_rfl) (by kernel_rfl) (by kernel_rfl) (fun _ _ _ h => h) (Or.inl ⟨by kernel_rfl, ?_⟩) (by assumption) ?_
          rotate_left
          · (intro w hSw; (try dsimp only at hSw); go_simp; try with_reducible rfl)
          (try simp only [Act.put, List.setIfInBounds_toArray, List.set_cons_zero, List.set_cons_succ])
          refine wpAnyH_take (i := 2) (oi := ⟨some 41, _, _, _, _, _⟩) (v := undef) rfl (by kernel_rfl) (by kernel_rfl) (by kernel_rfl) (fun _ _ _ h => h) (Or.inr ⟨by kernel_rfl, rfl⟩) (by assumption) ?_
          (try simp only [Act.put, List.setIfInBounds_toArray, List.set_cons_zero, List.set_cons_succ])
          refine wpAnyH_take (i := 3) (oi := ⟨some 42, _, _, _, _, _⟩) (v := undef) rfl (by kernel_rfl) (by kernel_rfl) (by kernel_rfl) (fun _ _ _ h => h) (Or.inr ⟨by kernel_rfl, rfl⟩) (by assumption) ?_
          (try simp only [Act.put, List.setIfInBounds_toArray, List.set_cons_zero, List.set_cons_succ])
          refine wpAnyH_take (i := 4) (oi := ⟨some 43, _, _, _, _, _⟩) (v := undef) rfl (by kernel_rfl) (by kernel_rfl) (by kernel_rfl) (fun _ _ _ h => h) (Or.inr ⟨by kernel_rfl, rfl⟩) (by assumption) ?_
          (try simp only [Act.put, List.setIfInBounds_toArray, List.set_cons_zero, List.set_cons_succ])
          refine wpAnyH_take (i := 5) (oi := ⟨some 44, _, _, _, _, _⟩) (v := undef) rfl (by kernel_rfl) (by kernel_rfl) (by kernel_rfl) (fun _ _ _ h => h) (Or.inr ⟨by kernel_rfl, rfl⟩) (by assumption) ?_
          (try simp only [Act.put, List.setIfInBounds_toArray, List.set_cons_zero, List.set_cons_succ])
          refine wpAnyH_take (i := 6) (oi := ⟨some 45, _, _, _, _, _⟩) (v := undef) rfl (by kernel_rfl) (by kernel_rfl) (by kernel_rfl) (fun _ _ _ h => h) (Or.inr ⟨by kernel_rfl, rfl⟩) (by assumption) ?_
          (try simp only [Act.put, List.setIfInBounds_toArray, List.set_cons_zero, List.set_cons_succ])
          refine wpAnyH_take (i := 7) (oi := ⟨some 46, _, _, _, _, _⟩) (v := undef) rfl (by kernel_rfl) (by kernel_rfl) (by kernel_rfl) (fun _ _ _ h => h) (Or.inr ⟨by kernel_rfl, rfl⟩) (by assumption) ?_
          (try simp only [Act.put, List.setIfInBounds_toArray, List.set_cons_zero, List.set_cons_succ])
          refine wpAnyH_take (i := 8) (oi := ⟨some 47, _, _, _, _, _⟩) (v := undef) rfl (by kernel_rfl) (by kernel_rfl) (by kernel_rfl) (fun _ _ _ h => h) (Or.inr ⟨by kernel_rfl, rfl⟩) (by assumption) ?_
          (try simp only [Act.put, List.setIfInBounds_toArray, List.set_cons_zero, List.set_cons_succ])
          refine wpAnyH_take (i := 9) (oi := ⟨some 48, _, _, _, _, _⟩) (v := ?_) rfl (by kernel_rfl) (by kernel_rfl) (by kernel_rfl) (fun _ _ _ h => h) (Or.inl ⟨by kernel_rfl, ?_⟩) (by assumption) ?_
          rotate_left
          · (intro w hSw; (try dsimp only at hSw); go_simp; try with_reducible rfl)
          (try simp only [Act.put, List.setIfInBounds_toArray, List.set_cons_zero, List.set_cons_succ])
          refine wpAnyH_done (by kernel_rfl) ?_ _
          have HEND := Lib.hid (HB2.out.trans (hkd.mono HB2.out.size))
          clear hHeld hkd
          go_wp2_with fail
          go_ret
          exact ⟨15, rfl, .inr (.inl ⟨HGO.out, .inl (by show firstR f m l s ≠ none; rw [HO.out]; exact fun e => by cases e), rfl⟩), HEND.out⟩
        | none =>
          have HFEW : Hid (splitsN l + 1 ≤ coresN m) := Lib.hid HRT.out.few
          obtain ⟨S, hS⟩ : ∃ S, splitsN l = S := ⟨_, rfl⟩
          obtain ⟨n, hn⟩ : ∃ n, coresN m = n := ⟨_, rfl⟩
          have HTL : Hid ((ticksI m 64).length = n) := Lib.hid (by rw [ticks_len HRT.out.m16, hn])
          have HSS := Lib.hid hS
          have HNN := Lib.hid hn
          have hn16 : n ≤ 16 := by rw [← hn]; exact coresN_le m
          rw [hS] at hsp HSP
          rw [hS, hn] at HFEW
          obtain ⟨n1, hn1⟩ : ∃ n1, n - 1 = n1 := ⟨_, rfl⟩
          have hn0 : n = n1 + 1 := by have := HFEW.out; omega
          have hws : IntKind.i64.wrap ((n : Int) - 1) = (n1 : Int) := by rw [IntKind.wrap_i64, show (n : Int) - 1 = (n1 : Int) by omega]; omega
          have HN1 := Lib.hid hn0
          clear hS hn hn1 hn0
          go_wp2_with fail
          by_cases heq : S = n1
          · have hbe : ((S : Int) == (n1 : Int)) = true := by rw [heq]; simp
            have HEQ := Lib.hid heq
            clear heq
            refine wp_region_held_drew (S := fun w' => w'.cell? ⟨P, 0, none⟩ = some (.int .i64 f) ∧ w'.cell? ⟨P, 1, none⟩ = some (.int .u32 m) ∧ w'.cell? ⟨P, 2, none⟩ = some (v) ∧ w'.cell? ⟨Q, 0, none⟩ = some (.int .i64 u) ∧ w'.cell? ⟨Q, 1, none⟩ = some (.int .i64 s)) (by kernel_rfl) ?_ (fun hHeld => ?_)
            · exact HSA.out _ hkd
            refine wpAnyH_take (i := 0) (oi := ⟨some 39, _, _, _, _, _⟩) (v := ?_) rfl (by kernel_rfl) (by kernel_rfl) (by kernel_rfl) (fun _ _ _ h => h) (Or.inl ⟨by kernel_rfl, ?_⟩) (by assumption) ?_
            rotate_left
            · (intro w hSw; (try dsimp only at hSw); go_simp; try with_reducible rfl)
            (try simp only [Act.put, List.setIfInBounds_toArray, List.set_cons_zero, List.set_cons_succ])
            refine wpAnyH_take (i := 1) (oi := ⟨some 40, _, _, _, _, _⟩) (v := ?_) rfl (by kernel_rfl) (by kernel_rfl) (by kernel_rfl) (fun _ _ _ h => h) (Or.inl ⟨by kernel_rfl, ?_⟩) (by assumption) ?_
            rotate_left
            · (intro w hSw; (try dsimp only at hSw); go_simp; try with_reducible rfl)
            (try simp only [Act.put, List.setIfInBounds_toArray, List.set_cons_zero, List.set_cons_succ])
            refine wpAnyH_take (i := 2) (oi := ⟨some 41, _, _, _, _, _⟩) (v := ?_) rfl (by kernel_rfl) (by kernel_rfl) (by kernel_rfl) (fun _ _ _ h => h) (Or.inl ⟨by kernel_rfl, ?_⟩) (by assumption) ?_
            rotate_left
            · (intro w hSw; (try dsimp only at hSw); go_simp; try with_reducible rfl)
            (try simp only [Act.put, List.setIfInBounds_toArray, List.set_cons_zero, List.set_cons_succ])
            refine wpAnyH_take (i := 4) (oi := ⟨some 43, _, _, _, _, _⟩) (v := ?_) rfl (by kernel_rfl) (by kernel_rfl) (by kernel_rfl) (fun _ _ _ h => h) (Or.inl ⟨by kernel_rfl, ?_⟩) (by assumption) ?_
            rotate_left
            · (intro w hSw; (try dsimp only at hSw); go_simp; try with_reducible rfl)
            (try simp only [Act.put, List.setIfInBounds_toArray, List.set_cons_zero, List.set_cons_succ])
            refine wpAnyH_ready (rs := [3]) (by kernel_rfl) (by simp) ?_
            refine AllReadyH.cons (o := ⟨some 42, _, _, _, _, _⟩) rfl (fun K hK => ?_) AllReadyH.nil
            rw [if_pos (by kernel_rfl)]
            go_simp
            go_at_call 58; refine (HSP.out _ (HPL.out _ hkd)).mono ?_; rintro e wa ⟨rfl, hba⟩
            have hka := hkd.trans (hba.mono hkd.size)
            refine hK.out _ _ ?_ (fun hHeld => ?_)
            · exact HSA.out _ hka
            clear hK K
            (try simp only [Act.put, List.setIfInBounds_toArray, List.set_cons_zero, List.set_cons_succ])
            refine wpAnyH_ready (rs := [5]) (by kernel_rfl) (by simp) ?_
            refine AllReadyH.cons (o := ⟨some 44, _, _, _, _, _⟩) rfl (fun K hK => ?_) AllReadyH.nil
            rw [if_pos (by kernel_rfl)]
            go_simp
            go_at_call 49; refine (HCO.out _).mono ?_; rintro e wb ⟨v5, rfl, hv5, hbb⟩
            have hkb := hka.trans (hbb.mono hka.size)
            obtain ⟨A5, c5, rfl, _, _⟩ := hv5
            rw [HTL.out]
            refine hK.out _ _ ?_ (fun hHeld => ?_)
            · exact HSA.out _ hkb
            clear hK K
            (try simp only [Act.put, List.setIfInBounds_toArray, List.set_cons_zero, List.set_cons_succ])
            refine wpAnyH_take (i := 6) (oi := ⟨some 45, _, _, _, _, _⟩) (v := ?_) rfl (by kernel_rfl) (by kernel_rfl) (by kernel_rfl) (fun _ _ _ h => h) (Or.inl ⟨by kernel_rfl, ?_⟩) (by assumption) ?_
            rotate_left
            · (intro w hSw; (try dsimp only at hSw); go_simp; try with_reducible rfl)
            (try simp only [Act.put, List.setIfInBounds_toArray, List.set_cons_zero, List.set_cons_succ])
            refine wpAnyH_take (i := 7) (oi := ⟨some 46, _, _, _, _, _⟩) (v := ?_) rfl (by kernel_rfl) (by kernel_rfl) (by kernel_rfl) (fun _ _ _ h => h) (Or.inl ⟨by kernel_rfl, ?_⟩) (by assumption) ?_
            rotate_left
            · (intro w hSw; (try dsimp only at hSw); go_simp; try with_reducible rfl)
            (try simp only [Act.put, List.setIfInBounds_toArray, List.set_cons_zero, List.set_cons_succ])
            refine wpAnyH_take (i := 8) (oi := ⟨some 47, _, _, _, _, _⟩) (v := ?_) rfl (by kernel_rfl) (by kernel_rfl) (by kernel_rfl) (fun _ _ _ h => h) (Or.inl ⟨by kernel_rfl, ?_⟩) (by assumption) ?_
            rotate_left
            · (intro w hSw; (try dsimp only at hSw); go_simp; try with_reducible rfl)
            (try simp only [Act.put, List.setIfInBounds_toArray, List.set_cons_zero, List.set_cons_succ])
            refine wpAnyH_take (i := 9) (oi := ⟨some 48, _, _, _, _, _⟩) (v := ?_) rfl (by kernel_rfl) (by kernel_rfl) (by kernel_rfl) (fun _ _ _ h => h) (Or.inl ⟨by kernel_rfl, ?_⟩) (by assumption) ?_
            rotate_left
            · (intro w hSw; (try dsimp only at hSw); go_simp; try with_reducible rfl)
            (try simp only [Act.put, List.setIfInBounds_toArray, List.set_cons_zero, List.set_cons_succ])
            refine wpAnyH_done (by kernel_rfl) ?_ _
            have HEND := Lib.hid (HB2.out.trans (hkb.mono HB2.out.size))
            clear hHeld hkb hka hkd hbb hba
            go_wp2_with fail
            go_ret
            exact ⟨15, rfl, .inr (.inl ⟨HGO.out, .inr (by rw [HSS.out, HNN.out, HN1.out, HEQ.out]; exact Nat.le_refl _), rfl⟩), HEND.out⟩
          · have hbe : ((S : Int) == (n1 : Int)) = false := by simp; omega
            have HLT2 : Hid (splitsN l + 1 < coresN m) := Lib.hid (by rw [HSS.out, HNN.out]; have := HFEW.out; have := HN1.out; omega)
            clear heq
            refine wp_region_held_drew (S := fun w' => w'.cell? ⟨P, 0, none⟩ = some (.int .i64 f) ∧ w'.cell? ⟨P, 1, none⟩ = some (.int .u32 m) ∧ w'.cell? ⟨P, 2, none⟩ = some (v) ∧ w'.cell? ⟨Q, 0, none⟩ = some (.int .i64 u) ∧ w'.cell? ⟨Q, 1, none⟩ = some (.int .i64 s)) (by kernel_rfl) ?_ (fun hHeld => ?_)
            · exact HSA.out _ hkd
            refine wpAnyH_take (i := 0) (oi := ⟨some 39, _, _, _, _, _⟩) (v := ?_) rfl (by kernel_rfl) (by kernel_rfl) (by kernel_rfl) (fun _ _ _ h => h) (Or.inl ⟨by kernel_rfl, ?_⟩) (by assumption) ?_
            rotate_left
            · (intro w hSw; (try dsimp only at hSw); go_simp; try with_reducible rfl)
            (try simp only [Act.put, List.setIfInBounds_toArray, List.set_cons_zero, List.set_cons_succ])
            refine wpAnyH_take (i := 1) (oi := ⟨some 40, _, _, _, _, _⟩) (v := ?_) rfl (by kernel_rfl) (by kernel_rfl) (by kernel_rfl) (fun _ _ _ h => h) (Or.inl ⟨by kernel_rfl, ?_⟩) (by assumption) ?_
            rotate_left
            · (intro w hSw; (try dsimp only at hSw); go_simp; try with_reducible rfl)
            (try simp only [Act.put, List.setIfInBounds_toArray, List.set_cons_zero, List.set_cons_succ])
            refine wpAnyH_take (i := 2) (oi := ⟨some 41, _, _, _, _, _⟩) (v := ?_) rfl (by kernel_rfl) (by kernel_rfl) (by kernel_rfl) (fun _ _ _ h => h) (Or.inl ⟨by kernel_rfl, ?_⟩) (by assumption) ?_
            rotate_left
            · (intro w hSw; (try dsimp only at hSw); go_simp; try with_reducible rfl)
            (try simp only [Act.put, List.setIfInBounds_toArray, List.set_cons_zero, List.set_cons_succ])
            refine wpAnyH_take (i := 4) (oi := ⟨some 43, _, _, _, _, _⟩) (v := ?_) rfl (by kernel_rfl) (by kernel_rfl) (by kernel_rfl) (fun _ _ _ h => h) (Or.inl ⟨by kernel_rfl, ?_⟩) (by assumption) ?_
            rotate_left
            · (intro w hSw; (try dsimp only at hSw); go_simp; try with_reducible rfl)
            (try simp only [Act.put, List.setIfInBounds_toArray, List.set_cons_zero, List.set_cons_succ])
            refine wpAnyH_ready (rs := [3]) (by kernel_rfl) (by simp) ?_
            refine AllReadyH.cons (o := ⟨some 42, _, _, _, _, _⟩) rfl (fun K hK => ?_) AllReadyH.nil
            rw [if_pos (by kernel_rfl)]
            go_simp
            go_at_call 58; refine (HSP.out _ (HPL.out _ hkd)).mono ?_; rintro e wa ⟨rfl, hba⟩
            have hka := hkd.trans (hba.mono hkd.size)
            refine hK.out _ _ ?_ (fun hHeld => ?_)
            · exact HSA.out _ hka
            clear hK K
            (try simp only [Act.put, List.setIfInBounds_toArray, List.set_cons_zero, List.set_cons_succ])
            refine wpAnyH_ready (rs := [5]) (by kernel_rfl) (by simp) ?_
            refine AllReadyH.cons (o := ⟨some 44, _, _, _, _, _⟩) rfl (fun K hK => ?_) AllReadyH.nil
            rw [if_pos (by kernel_rfl)]
            go_simp
            go_at_call 49; refine (HCO.out _).mono ?_; rintro e wb ⟨v5, rfl, hv5, hbb⟩
            have hkb := hka.trans (hbb.mono hka.size)
            obtain ⟨A5, c5, rfl, _, _⟩ := hv5
            rw [HTL.out]
            refine hK.out _ _ ?_ (fun hHeld => ?_)
            · exact HSA.out _ hkb
            clear hK K
            (try simp only [Act.put, List.setIfInBounds_toArray, List.set_cons_zero, List.set_cons_succ])
            refine wpAnyH_take (i := 6) (oi := ⟨some 45, _, _, _, _, _⟩) (v := ?_) rfl (by kernel_rfl) (by kernel_rfl) (by kernel_rfl) (fun _ _ _ h => h) (Or.inl ⟨by kernel_rfl, ?_⟩) (by assumption) ?_
            rotate_left
            · (intro w hSw; (try dsimp only at hSw); go_simp; try with_reducible rfl)
            (try simp only [Act.put, List.setIfInBounds_toArray, List.set_cons_zero, List.set_cons_succ])
            refine wpAnyH_take (i := 7) (oi := ⟨some 46, _, _, _, _, _⟩) (v := ?_) rfl (by kernel_rfl) (by kernel_rfl) (by kernel_rfl) (fun _ _ _ h => h) (Or.inl ⟨by kernel_rfl, ?_⟩) (by assumption) ?_
            rotate_left
            · (intro w hSw; (try dsimp only at hSw); go_simp; try with_reducible rfl)
            (try simp only [Act.put, List.setIfInBounds_toArray, List.set_cons_zero, List.set_cons_succ])
            refine wpAnyH_take (i := 8) (oi := ⟨some 47, _, _, _, _, _⟩) (v := ?_) rfl (by kernel_rfl) (by kernel_rfl) (by kernel_rfl) (fun _ _ _ h => h) (Or.inl ⟨by kernel_rfl, ?_⟩) (by assumption) ?_
            rotate_left
            · (intro w hSw; (try dsimp only at hSw); go_simp; try with_reducible rfl)
            (try simp only [Act.put, List.setIfInBounds_toArray, List.set_cons_zero, List.set_cons_succ])
            refine wpAnyH_take (i := 9) (oi := ⟨some 48, _, _, _, _, _⟩) (v := ?_) rfl (by kernel_rfl) (by kernel_rfl) (by kernel_rfl) (fun _ _ _ h => h) (Or.inl ⟨by kernel_rfl, ?_⟩) (by assumption) ?_
            rotate_left
            · (intro w hSw; (try dsimp only at hSw); go_simp; try with_reducible rfl)
            (try simp only [Act.put, List.setIfInBounds_toArray, List.set_cons_zero, List.set_cons_succ])
            refine wpAnyH_done (by kernel_rfl) ?_ _
            have hkq := hkb.drew
            obtain ⟨KM, hKM⟩ : ∃ KM, mostT (gapT f m l) (rmN f m l) 0 = KM := ⟨_, rfl⟩
            have HMT := Lib.hid hKM
            clear hHeld hka hkd hbb hba hKM
            obtain ⟨S1, hS1⟩ : ∃ S1 : Nat, s.toNat = S1 := ⟨_, rfl⟩
            have hsS : s = (S1 : Int) := by omega
            by_cases hgt : KM < S1
            · have hd : decide ((KM : Int) < s) = true := decide_eq_true (by omega)
              have HWY : Hid (Why21 f m l (u, s) 12) := Lib.hid (.inr (.inr (.inl ⟨HGO.out, HO.out, HLT2.out, by show mostT _ _ 0 < s.toNat; rw [HMT.out, hS1]; exact hgt, rfl⟩)))
              clear hS1 hsS hgt
              go_wp2_with fail
              refine wp_region_held_drew (S := fun w' => w'.cell? ⟨P, 0, none⟩ = some (.int .i64 f) ∧ w'.cell? ⟨P, 1, none⟩ = some (.int .u32 m) ∧ w'.cell? ⟨P, 2, none⟩ = some (v) ∧ w'.cell? ⟨Q, 0, none⟩ = some (.int .i64 u) ∧ w'.cell? ⟨Q, 1, none⟩ = some (.int .i64 s)) (by kernel_rfl) ?_ (fun hHeld => ?_)
              · exact HSA.out _ hkq
              refine wpAnyH_take (i := 0) (oi := ⟨some 49, _, _, _, _, _⟩) (v := ?_) rfl (by kernel_rfl) (by kernel_rfl) (by kernel_rfl) (fun _ _ _ h => h) (Or.inl ⟨by kernel_rfl, ?_⟩) (by assumption) ?_
              rotate_left
              · (intro w hSw; (try dsimp only at hSw); go_simp; try with_reducible rfl)
              (try simp only [Act.put, List.setIfInBounds_toArray, List.set_cons_zero, List.set_cons_succ])
              refine wpAnyH_take (i := 1) (oi := ⟨some 50, _, _, _, _, _⟩) (v := ?_) rfl (by kernel_rfl) (by kernel_rfl) (by kernel_rfl) (fun _ _ _ h => h) (Or.inl ⟨by kernel_rfl, ?_⟩) (by assumption) ?_
              rotate_left
              · (intro w hSw; (try dsimp only at hSw); go_simp; try with_reducible rfl)
              (try simp only [Act.put, List.setIfInBounds_toArray, List.set_cons_zero, List.set_cons_succ])
              refine wpAnyH_take (i := 2) (oi := ⟨some 51, _, _, _, _, _⟩) (v := ?_) rfl (by kernel_rfl) (by kernel_rfl) (by kernel_rfl) (fun _ _ _ h => h) (Or.inl ⟨by kernel_rfl, ?_⟩) (by assumption) ?_
              rotate_left
              · (intro w hSw; (try dsimp only at hSw); go_simp; try with_reducible rfl)
              (try simp only [Act.put, List.setIfInBounds_toArray, List.set_cons_zero, List.set_cons_succ])
              refine wpAnyH_ready (rs := [3]) (by kernel_rfl) (by simp) ?_
              refine AllReadyH.cons (o := ⟨some 52, _, _, _, _, _⟩) rfl (fun K hK => ?_) AllReadyH.nil
              rw [if_pos (by kernel_rfl)]
              go_simp
              go_at_call 9; refine (HMO.out _ (HPL.out _ hkq)).mono ?_; rintro e wc ⟨km, rfl, hkm, _, hbc⟩
              have hkc := hkq.trans (hbc.mono hkq.size)
              have hkm2 := hkm HRT.out
              rw [HMT.out] at hkm2
              subst hkm2
              refine hK.out _ _ ?_ (fun hHeld => ?_)
              · exact HSA.out _ hkc
              clear hK K
              (try simp only [Act.put, List.setIfInBounds_toArray, List.set_cons_zero, List.set_cons_succ])
              refine wpAnyH_take (i := 4) (oi := ⟨some 53, _, _, _, _, _⟩) (v := ?_) rfl (by kernel_rfl) (by kernel_rfl) (by kernel_rfl) (fun _ _ _ h => h) (Or.inl ⟨by kernel_rfl, ?_⟩) (by assumption) ?_
              rotate_left
              · (intro w hSw; (try dsimp only at hSw); go_simp; try with_reducible rfl)
              (try simp only [Act.put, List.setIfInBounds_toArray, List.set_cons_zero, List.set_cons_succ])
              refine wpAnyH_done (by kernel_rfl) ?_ _
              have HEND := Lib.hid (HB2.out.trans (hkc.mono HB2.out.size))
              clear hHeld hkc hkq hbc
              go_wp2_with fail
              go_ret
              exact ⟨12, rfl, HWY.out, HEND.out⟩
            · have hd : decide ((KM : Int) < s) = false := decide_eq_false (by omega)
              have HWY : Hid (Why21 f m l (u, s) 0) := Lib.hid (WvGoes.why ⟨HGO.out, HO.out, HLT2.out, by show s.toNat ≤ mostT _ _ 0; rw [HMT.out, hS1]; omega⟩)
              clear hS1 hsS hgt
              go_wp2_with fail
              refine wp_region_held_drew (S := fun w' => w'.cell? ⟨P, 0, none⟩ = some (.int .i64 f) ∧ w'.cell? ⟨P, 1, none⟩ = some (.int .u32 m) ∧ w'.cell? ⟨P, 2, none⟩ = some (v) ∧ w'.cell? ⟨Q, 0, none⟩ = some (.int .i64 u) ∧ w'.cell? ⟨Q, 1, none⟩ = some (.int .i64 s)) (by kernel_rfl) ?_ (fun hHeld => ?_)
              · exact HSA.out _ hkq
              refine wpAnyH_take (i := 0) (oi := ⟨some 49, _, _, _, _, _⟩) (v := ?_) rfl (by kernel_rfl) (by kernel_rfl) (by kernel_rfl) (fun _ _ _ h => h) (Or.inl ⟨by kernel_rfl, ?_⟩) (by assumption) ?_
              rotate_left
              · (intro w hSw; (try dsimp only at hSw); go_simp; try with_reducible rfl)
              (try simp only [Act.put, List.setIfInBounds_toArray, List.set_cons_zero, List.set_cons_succ])
              refine wpAnyH_take (i := 1) (oi := ⟨some 50, _, _, _, _, _⟩) (v := ?_) rfl (by kernel_rfl) (by kernel_rfl) (by kernel_rfl) (fun _ _ _ h => h) (Or.inl ⟨by kernel_rfl, ?_⟩) (by assumption) ?_
              rotate_left
              · (intro w hSw; (try dsimp only at hSw); go_simp; try with_reducible rfl)
              (try simp only [Act.put, List.setIfInBounds_toArray, List.set_cons_zero, List.set_cons_succ])
              refine wpAnyH_take (i := 2) (oi := ⟨some 51, _, _, _, _, _⟩) (v := ?_) rfl (by kernel_rfl) (by kernel_rfl) (by kernel_rfl) (fun _ _ _ h => h) (Or.inl ⟨by kernel_rfl, ?_⟩) (by assumption) ?_
              rotate_left
              · (intro w hSw; (try dsimp only at hSw); go_simp; try with_reducible rfl)
              (try simp only [Act.put, List.setIfInBounds_toArray, List.set_cons_zero, List.set_cons_succ])
              refine wpAnyH_ready (rs := [3]) (by kernel_rfl) (by simp) ?_
              refine AllReadyH.cons (o := ⟨some 52, _, _, _, _, _⟩) rfl (fun K hK => ?_) AllReadyH.nil
              rw [if_pos (by kernel_rfl)]
              go_simp
              go_at_call 9; refine (HMO.out _ (HPL.out _ hkq)).mono ?_; rintro e wc ⟨km, rfl, hkm, _, hbc⟩
              have hkc := hkq.trans (hbc.mono hkq.size)
              have hkm2 := hkm HRT.out
              rw [HMT.out] at hkm2
              subst hkm2
              refine hK.out _ _ ?_ (fun hHeld => ?_)
              · exact HSA.out _ hkc
              clear hK K
              (try simp only [Act.put, List.setIfInBounds_toArray, List.set_cons_zero, List.set_cons_succ])
              refine wpAnyH_take (i := 4) (oi := ⟨some 53, _, _, _, _, _⟩) (v := ?_) rfl (by kernel_rfl) (by kernel_rfl) (by kernel_rfl) (fun _ _ _ h => h) (Or.inl ⟨by kernel_rfl, ?_⟩) (by assumption) ?_
              rotate_left
              · (intro w hSw; (try dsimp only at hSw); go_simp; try with_reducible rfl)
              (try simp only [Act.put, List.setIfInBounds_toArray, List.set_cons_zero, List.set_cons_succ])
              refine wpAnyH_done (by kernel_rfl) ?_ _
              have HEND := Lib.hid (HB2.out.trans (hkc.mono HB2.out.size))
              clear hHeld hkc hkq hbc
              go_wp2_with fail
              go_ret
              exact ⟨0, rfl, HWY.out, HEND.out⟩
    · have hne : (E2 != 0) = true := by simp; exact he
      have HHE := Lib.hid he
      have HEND := Lib.hid (HB2.out.trans (HK4.out.mono HB2.out.size))
      clear he
      go_wp2_with fail
      go_ret
      exact ⟨E2, rfl, .inl ⟨HHE.out, .inr (.inl ⟨HRT.out, by rw [HE2.out]; exact HHE.out, HE2.out.symm⟩)⟩, HEND.out⟩
  · have HNR : Hid (¬ Right f m l) := Lib.hid (fun h => absurd (HIF.out.2 h) (by decide))
    have HEND := Lib.hid (HB2.out.trans (HK3.out.mono HB2.out.size))
    go_wp2_with fail
    go_ret
    exact ⟨30, rfl, .inl ⟨by decide, .inl ⟨HNR.out, rfl⟩⟩, HEND.out⟩
end Go.Proofs.Ytkgkanmccaodfaa

/-
  A want woven by the program, or why it is not.
  Conditions: the slice reads as places; the numbers are of their kinds.
-/
set_option linter.unusedVariables false
set_option linter.unusedSimpArgs false
namespace Go.Proofs.Ytkgkanmccaodfaa
open Go.RowKit

theorem weaveI_any {f : Int} {m : Nat} {l : List Pl} (hr : Right f m l) {s : Int} (hs1 : 1 ≤ s) (hs2 : s ≤ f) (A : Option Addr) (n cA : Nat) (hn : coresN m = n) (w : World) (hv : IntsAt w (.slice A n cA) (ticksI m 64)) :
    Calls Try.prog 37 #[.agg (loomC f (.slice A n cA) (gapT f m l) (rmN f m l)), .int .i64 s] w (RetPc21 (mkP (wovenS f m l s).gv 16) w) := by
  subst hn
  have hf2 := hr.f2
  have hf64 := hr.f64
  have := weave_any f.toNat A (coresN m) cA (gapT f m l) (rmN f m l) (ticksI m 64) (loom_ok hr) s.toNat w (by omega) hv
  unfold loomA at this
  rwa [Int.toNat_of_nonneg (by omega), Int.toNat_of_nonneg (by omega)] at this
def RetWv (f : Int) (m : Nat) (l : List Pl) (u s : Int) (w : World) (e : Ending) (w' : World) : Prop :=
  ∃ E : Int, Why21 f m l (u, s) E ∧ Below w.heap.size w w' ∧ ((E ≠ 0 ∧ e = .returned (.tuple #[plA (.slice none 0 0) zeroPl, .int .i64 E])) ∨
    (E = 0 ∧ ∃ A n c, e = .returned (.tuple #[.agg #[.int .i64 u, .int .i64 s, .int .i64 0, .slice A n c], .int .i64 0]) ∧ PcsAt w' (.slice A n c) (mkP (wovenS f m l s).gv 16)))

set_option maxRecDepth 100000 in
set_option maxHeartbeats 16000000 in
theorem wvPlace_any (f : Int) (m : Nat) (v : Value) (l : List Pl) (u s : Int) (w : World) (h : PlsAt w v l) (hL : LightL l) (hm : m < 4294967296) (hu : Int64 u) (hs : Int64 s) :
    Calls Try.prog 14 #[planA f m v, .agg #[.int .i64 u, .int .i64 s]] w (RetWv f m l u s w) := by
  have mixed : Try.prog.follows .mixedOrders = true := by kernel_rfl
  have HCK := Lib.hid (fun W h => wvCheck_any f m v l u s W h hL hm hu hs)
  have HLO := Lib.hid (fun hr W h => loomOf_any f m v l W h hL hr)
  have HH := Lib.hid h
  have HTK := Lib.hid (@ticks_len m)
  unfold planA at HCK HLO
  obtain ⟨w1, P, hw1, hP, hPl, hb1, hbox⟩ := box_any w #[.int .i64 f, .int .u32 m, v] 25
  obtain ⟨w2, Q, hw2, hQ, hQl, hb2, hqox⟩ := box_any w1 #[.int .i64 u, .int .i64 s] 35
  obtain ⟨w3, R, hw3, hR, hRl, hb3, hrox⟩ := box_any w2 #[.int .i64 0, .int .i64 0, .int .i64 0, .slice none 0 0] 38
  have hb23 := hb2.trans (hb3.mono hb2.size)
  have HB3 := Lib.hid (hb1.trans (hb23.mono hb1.size))
  have HPB := Lib.hid (keep_block hbox hb23)
  have HQB := Lib.hid (keep_block hqox hb3)
  have HRB := Lib.hid hrox
  have HRL : Hid (R < w3.heap.size) := Lib.hid hRl
  have HRW : Hid (w.heap.size ≤ R ∧ P ≠ R ∧ Q ≠ R) := Lib.hid (by have := hb1.size; have := hb2.size; omega)
  have HSA : Hid (∀ W : World, Below w3.heap.size w3 W → W.cell? ⟨P, 0, none⟩ = some (.int .i64 f) ∧ W.cell? ⟨P, 1, none⟩ = some (.int .u32 m) ∧ W.cell? ⟨P, 2, none⟩ = some (v) ∧ W.cell? ⟨Q, 0, none⟩ = some (.int .i64 u) ∧ W.cell? ⟨Q, 1, none⟩ = some (.int .i64 s)) := Lib.hid (fun W hk => by
    obtain ⟨a, b, c⟩ := three_heads (keep_block HPB.out hk)
    obtain ⟨d, e⟩ := two_heads (keep_block HQB.out hk)
    exact ⟨a, b, c, d, e⟩)
  have HSR : Hid (∀ W : World, Below w3.heap.size w3 W → ∀ cs, (W.setRow R cs).cell? ⟨P, 0, none⟩ = some (.int .i64 f) ∧ (W.setRow R cs).cell? ⟨P, 1, none⟩ = some (.int .u32 m) ∧ (W.setRow R cs).cell? ⟨P, 2, none⟩ = some (v) ∧ (W.setRow R cs).cell? ⟨Q, 0, none⟩ = some (.int .i64 u) ∧ (W.setRow R cs).cell? ⟨Q, 1, none⟩ = some (.int .i64 s)) := Lib.hid (fun W hk cs => by
    obtain ⟨a, b, c⟩ := three_heads ((setRow_other W R P cs HRW.out.2.1).trans (keep_block HPB.out hk))
    obtain ⟨d, e⟩ := two_heads ((setRow_other W R Q cs HRW.out.2.2).trans (keep_block HQB.out hk))
    exact ⟨a, b, c, d, e⟩)
  have HPL : Hid (∀ W : World, Below w3.heap.size w3 W → PlsAt W v l) := Lib.hid (fun W hk => HH.out.keep (HB3.out.trans (hk.mono HB3.out.size)))
  obtain ⟨r0, r1, r2, q0, q1⟩ := HSA.out w3 (Below.refl _ _)
  unfold planA
  clear h hb1 hb2 hb3 hb23 hbox hqox hrox hL hu hs hm
  go_enter Try.func14, Try.ntmps14
  go_wp2_with fail
  refine (HCK.out _ (HPL.out _ (Below.refl _ _))).mono ?_
  rintro e w4 ⟨E, rfl, hwhy, hb4⟩
  have HK4 := Lib.hid hb4
  have HWY := Lib.hid hwhy
  clear hb4 hwhy r0 r1 r2 q0 q1 hw1 hw2 hw3 hP hQ hR
  by_cases hE : E = 0
  · subst hE
    have HGO := Lib.hid HWY.out.zero
    have HS1 : Hid (1 ≤ s ∧ s ≤ f) := Lib.hid ((WOk.of_chk HGO.out.goes.chk).2.all _ (List.mem_singleton.2 rfl)).2
    have HLO := Lib.hid (HLO.out HGO.out.goes.right)
    have HWV := Lib.hid (fun A n c hn W hv => weaveI_any HGO.out.goes.right HS1.out.1 HS1.out.2 A n c hn W hv)
    have hkd := HK4.out.drew
    go_wp2_with fail
    refine wp_region_held_drew (S := fun w' => w'.cell? ⟨P, 0, none⟩ = some (.int .i64 f) ∧ w'.cell? ⟨P, 1, none⟩ = some (.int .u32 m) ∧ w'.cell? ⟨P, 2, none⟩ = some (v) ∧ w'.cell? ⟨Q, 0, none⟩ = some (.int .i64 u) ∧ w'.cell? ⟨Q, 1, none⟩ = some (.int .i64 s)) (by kernel_rfl) ?_ (fun hHeld => ?_)
    · exact HSA.out _ hkd
    refine wpAnyH_take (i := 0) (oi := ⟨some 14, _, _, _, _, _⟩) (v := ?_) rfl (by kernel_rfl) (by kernel_rfl) (by kernel_rfl) (fun _ _ _ h => h) (Or.inl ⟨by kernel_rfl, ?_⟩) (by assumption) ?_
    rotate_left
    · (intro w hSw; (try dsimp only at hSw); go_simp; try with_reducible rfl)
    (try simp only [Act.put, List.setIfInBounds_toArray, List.set_cons_zero, List.set_cons_succ])
    refine wpAnyH_take (i := 1) (oi := ⟨some 15, _, _, _, _, _⟩) (v := ?_) rfl (by kernel_rfl) (by kernel_rfl) (by kernel_rfl) (fun _ _ _ h => h) (Or.inl ⟨by kernel_rfl, ?_⟩) (by assumption) ?_
    rotate_left
    · (intro w hSw; (try dsimp only at hSw); go_simp; try with_reducible rfl)
    (try simp only [Act.put, List.setIfInBounds_toArray, List.set_cons_zero, List.set_cons_succ])
    refine wpAnyH_take (i := 2) (oi := ⟨some 16, _, _, _, _, _⟩) (v := ?_) rfl (by kernel_rfl) (by kernel_rfl) (by kernel_rfl) (fun _ _ _ h => h) (Or.inl ⟨by kernel_rfl, ?_⟩) (by assumption) ?_
    rotate_left
    · (intro w hSw; (try dsimp only at hSw); go_simp; try with_reducible rfl)
    (try simp only [Act.put, List.setIfInBounds_toArray, List.set_cons_zero, List.set_cons_succ])
    refine wpAnyH_take (i := 3) (oi := ⟨some 17, _, _, _, _, _⟩) (v := ?_) rfl (by kernel_rfl) (by kernel_rfl) (by kernel_rfl) (fun _ _ _ h => h) (Or.inl ⟨by kernel_rfl, ?_⟩) (by assumption) ?_
    rotate_left
    · (intro w hSw; (try dsimp only at hSw); go_simp; try with_reducible rfl)
    (try simp only [Act.put, List.setIfInBounds_toArray, List.set_cons_zero, List.set_cons_succ])
    refine wpAnyH_take (i := 4) (oi := ⟨some 18, _, _, _, _, _⟩) (v := ?_) rfl (by kernel_rfl) (by kernel_rfl) (by kernel_rfl) (fun _ _ _ h => h) (Or.inl ⟨by kernel_rfl, ?_⟩) (by assumption) ?_
    rotate_left
    · (intro w hSw; (try dsimp only at hSw); go_simp; try with_reducible rfl)
    (try simp only [Act.put, List.setIfInBounds_toArray, List.set_cons_zero, List.set_cons_succ])
    refine wpAnyH_take (i := 6) (oi := ⟨some 20, _, _, _, _, _⟩) (v := ?_) rfl (by kernel_rfl) (by kernel_rfl) (by kernel_rfl) (fun _ _ _ h => h) (Or.inl ⟨by kernel_rfl, ?_⟩) (by assumption) ?_
    rotate_left
    · (intro w hSw; (try dsimp only at hSw); go_simp; try with_reducible rfl)
    (try simp only [Act.put, List.setIfInBounds_toArray, List.set_cons_zero, List.set_cons_succ])
    refine wpAnyH_take (i := 7) (oi := ⟨some 21, _, _, _, _, _⟩) (v := ?_) rfl (by kernel_rfl) (by kernel_rfl) (by kernel_rfl) (fun _ _ _ h => h) (Or.inl ⟨by kernel_rfl, ?_⟩) (by assumption) ?_
    rotate_left
    · (intro w hSw; (try dsimp only at hSw); go_simp; try with_reducible rfl)
    (try simp only [Act.put, List.setIfInBounds_toArray, List.set_cons_zero, List.set_cons_succ])
    refine wpAnyH_ready (rs := [5]) (by kernel_rfl) (by simp) ?_
    refine AllReadyH.cons (o := ⟨some 19, _, _, _, _, _⟩) rfl (fun K hK => ?_) AllReadyH.nil
    rw [if_pos (by kernel_rfl)]
    go_simp
    go_at_call 27; refine (HLO.out _ (HPL.out _ hkd)).mono ?_; rintro e wa ⟨A, n, c, rfl, hn, hv3, hba⟩
    have hka := hkd.trans (hba.mono hkd.size)
    have HWV2 := Lib.hid (HWV.out A n c (by rw [← hn]; exact (HTK.out HGO.out.goes.right.m16).symm) wa hv3)
    obtain ⟨L, hL⟩ : ∃ L, loomC f (.slice A n c) (gapT f m l) (rmN f m l) = L := ⟨_, rfl⟩
    rw [hL] at HWV2 ⊢
    refine hK.out _ _ ?_ (fun hHeld => ?_)
    · exact HSA.out _ hka
    clear hK K
    (try simp only [Act.put, List.setIfInBounds_toArray, List.set_cons_zero, List.set_cons_succ])
    refine wpAnyH_ready (rs := [8]) (by kernel_rfl) (by simp) ?_
    refine AllReadyH.cons (o := ⟨some 22, _, _, _, _, _⟩) rfl (fun K hK => ?_) AllReadyH.nil
    rw [if_pos (by kernel_rfl)]
    go_simp
    go_at_call 37; refine HWV2.out.mono ?_; rintro e wb ⟨A4, n4, c4, rfl, hp4, hbb⟩
    have hkb := hka.trans (hbb.mono hka.size)
    refine hK.out _ _ ?_ (fun hHeld => ?_)
    · exact HSA.out _ hkb
    clear hK K
    (try simp only [Act.put, List.setIfInBounds_toArray, List.set_cons_zero, List.set_cons_succ])
    have HR5 := Lib.hid (keep_block HRB.out hkb)
    refine wpAnyH_take (i := 9) (oi := ⟨some 23, _, _, _, _, _⟩) (v := ?_) rfl (by kernel_rfl) (by kernel_rfl) (by kernel_rfl) (fun _ _ _ h => h) (Or.inl ⟨by kernel_rfl, ?_⟩) (by assumption) ?_
    rotate_left
    · (intro w hSw; (try dsimp only at hSw); go_simp; try with_reducible rfl)
    (try simp only [Act.put, List.setIfInBounds_toArray, List.set_cons_zero, List.set_cons_succ])
    refine wpAnyH_ready (rs := [10]) (by kernel_rfl) (by simp) ?_
    refine AllReadyH.cons (o := ⟨none, _, _, _, _, _⟩) rfl (fun K hK => ?_) AllReadyH.nil
    refine step_store_row16 rfl _ _ _ rfl R #[.int .i64 u, .int .i64 s, .int .i64 0, .slice A4 n4 c4] (by simp [Act.eval, Act.put]) (by simp [Act.eval, Act.put]) 38 _ HR5.out (Try.sizePl _ _ _ _) rfl (one4 _ _ _ _ _ _) ?_
    refine hK.out _ _ ?_ (fun hHeld => ?_)
    · exact HSR.out wb hkb _
    clear hK K
    (try simp only [Act.put, List.setIfInBounds_toArray, List.set_cons_zero, List.set_cons_succ])
    refine wpAnyH_take (i := 11) (oi := ⟨some 5, _, _, _, _, _⟩) (v := ?_) rfl (by kernel_rfl) (by kernel_rfl) (by kernel_rfl) (fun _ _ _ h => h) (Or.inl ⟨by kernel_rfl, ?_⟩) (by assumption) ?_
    rotate_left
    · (intro w hSw; (try dsimp only at hSw); go_simp; try with_reducible rfl)
    (try simp only [Act.put, List.setIfInBounds_toArray, List.set_cons_zero, List.set_cons_succ])
    refine wpAnyH_done (by kernel_rfl) ?_ _
    have HEND : Hid (PcsAt (wb.setRow R #[.int .i64 u, .int .i64 s, .int .i64 0, .slice A4 n4 c4]) (.slice A4 n4 c4) (mkP (wovenS f m l s).gv 16) ∧ Below w.heap.size w (wb.setRow R #[.int .i64 u, .int .i64 s, .int .i64 0, .slice A4 n4 c4])) := Lib.hid ⟨(PcsIn.setRow hp4 (.inl fun h9 => absurd (Nat.lt_of_lt_of_le HRL.out hka.size) (Nat.not_lt.2 h9))).any, below_row (HB3.out.trans (hkb.mono HB3.out.size)) HRW.out.1 _⟩
    clear hHeld hka hkb hkd hba hbb hp4 hv3 hn hL
    go_wp2_with fail
    refine bodyPost_ret (v := .tuple #[.agg #[.int .i64 u, .int .i64 s, .int .i64 0, .slice A4 n4 c4], .int .i64 0]) (results_row_tmp rfl _ _ R _ _ _ _ rfl (setRow_heap _ _ _ _ _ _ HR5.out) Try.underlying38 rfl (Try.sizePl _ _ _ _) _ rfl) rfl ?_
    exact ⟨0, HWY.out, HEND.out.2, .inr ⟨rfl, A4, n4, c4, rfl, HEND.out.1⟩⟩
  · have hne : (E != 0) = true := by simp; exact hE
    have HE := Lib.hid hE
    have HR4 := Lib.hid (keep_block HRB.out HK4.out)
    have HEND := Lib.hid (below_row (HB3.out.trans (HK4.out.mono HB3.out.size)) HRW.out.1 #[.int .i64 0, .int .i64 0, .int .i64 0, .slice none 0 0])
    clear hE
    go_wp2_with (refine wpList_store_row rfl _ _ _ rfl R #[.int .i64 0, .int .i64 0, .int .i64 0, .slice none 0 0] rfl rfl 38 _ HR4.out (Try.sizePl _ _ _ _) rfl (one4 _ _ _ _ _ _) ?_)
    refine bodyPost_ret (v := .tuple #[plA (.slice none 0 0) zeroPl, .int .i64 E]) (results_row_tmp rfl _ _ R _ _ _ _ rfl (setRow_heap _ _ _ _ _ _ HR4.out) Try.underlying38 rfl (Try.sizePl _ _ _ _) _ rfl) rfl ?_
    exact ⟨E, HWY.out, HEND.out, .inl ⟨HE.out, rfl⟩⟩
end Go.Proofs.Ytkgkanmccaodfaa

/-
  The page's example, reckoned.
  Conditions: none.
-/
set_option linter.unusedVariables false
namespace Go.Proofs.Ytkgkanmccaodfaa

def exV : List Pl := [⟨1, 4, 0, [⟨0, 3⟩, ⟨1, 12⟩]⟩, ⟨2, 2, 2, []⟩, ⟨3, 2, 3, []⟩]
theorem exV_most : mostT (gapT 4 15 exV) (rmN 4 15 exV) 0 = 4 := by decide +kernel
theorem exV_woven : (wovenP 4 15 exV (4, 3)).ps = [⟨0, 4⟩, ⟨1, 3⟩] := by decide +kernel
theorem exV_none : firstR 4 15 exV 3 = .none := by decide +kernel
theorem exV_some : firstR 4 15 exV 2 = .some 0 := by decide +kernel
theorem exV_few : splitsN exV + 1 < coresN 15 := by decide +kernel
end Go.Proofs.Ytkgkanmccaodfaa

/-
  Pieces and places held against each other.
  Conditions: the slices read as pieces.
-/
set_option linter.unusedVariables false
namespace Go.Proofs.Ytkgkanmccaodfaa
open Go.RowKit

theorem takeP_same {α : Type} {xs ys : List α} {k : Nat} {x y : α} (h : xs.take k = ys.take k) (hx : xs[k]? = some x) (hy : ys[k]? = some y) (e : x = y) : xs.take (k + 1) = ys.take (k + 1) := by
  rw [List.take_add_one, List.take_add_one, h, hx, hy, e]
theorem differP {α : Type} {xs ys : List α} {k : Nat} {x y : α} (hx : xs[k]? = some x) (hy : ys[k]? = some y) (e : x ≠ y) : xs ≠ ys := by
  rintro rfl
  rw [hx] at hy
  exact e (Option.some.inj hy)

theorem pl_no {x y : Pl} (h : x.u ≠ y.u ∨ x.s ≠ y.s ∨ x.c ≠ y.c ∨ x.ps ≠ y.ps) : decide (x = y) = false := decide_eq_false fun e => by
  subst e
  simp at h
theorem pl_same {x y : Pl} (h1 : x.u = y.u) (h2 : x.s = y.s) (h3 : x.c = y.c) : decide (x = y) = decide (x.ps = y.ps) := by
  by_cases h : x.ps = y.ps
  · rw [decide_eq_true h, decide_eq_true (Pl.ext' h1 h2 h3 h)]
  · rw [decide_eq_false h, pl_no (.inr (.inr (.inr h)))]

set_option maxRecDepth 100000 in
set_option maxHeartbeats 4000000 in
theorem refSamePlace_any (u v : Value) (x y : Pl) (w : World) (hs : PcsAt w u x.ps) (ht : PcsAt w v y.ps) :
    Calls Try.prog 15 #[plA u x, plA v y] w (RetB (.bool (decide (x = y))) w) := by
  have HA := Lib.hid hs
  have HB := Lib.hid ht
  have hbA := hs.bound
  have hbB := ht.bound
  obtain ⟨A, c, rfl⟩ := hs.form
  obtain ⟨B, d, rfl⟩ := ht.form
  have HNO := Lib.hid (@pl_no x y)
  have HSA := Lib.hid (@pl_same x y)
  obtain ⟨xu, xs, xc, ps⟩ := x
  obtain ⟨yu, ys, yc, qs⟩ := y
  simp only at *
  obtain ⟨n, hn⟩ : ∃ n, ps.length = n := ⟨_, rfl⟩
  obtain ⟨m, hm⟩ : ∃ m, qs.length = m := ⟨_, rfl⟩
  rw [hn] at HA hbA ⊢
  rw [hm] at HB hbB ⊢
  have HN := Lib.hid hn
  have HM := Lib.hid hm
  obtain ⟨R, hR⟩ : ∃ R, decide ((⟨xu, xs, xc, ps⟩ : Pl) = ⟨yu, ys, yc, qs⟩) = R := ⟨_, rfl⟩
  rw [hR] at HNO HSA ⊢
  obtain ⟨w1, P, hw1, hP, hPl, hb1, hbox⟩ := box_any w #[.int .i64 xu, .int .i64 xs, .int .i64 xc, .slice A n c] 38
  obtain ⟨w2, X, hw2, hX, hXl, hb2, hxbox⟩ := box_any w1 #[.int .i64 yu, .int .i64 ys, .int .i64 yc, .slice B m d] 38
  have HB2 := Lib.hid (hb1.trans (hb2.mono hb1.size))
  have HPB := Lib.hid (keep_block hbox hb2)
  have HXB := Lib.hid hxbox
  obtain ⟨p0, p1, p2, p3⟩ := four_heads HPB.out
  obtain ⟨q0, q1, q2, q3⟩ := four_heads hxbox
  have HA2 := Lib.hid (HA.out.keep HB2.out)
  have HBB2 := Lib.hid (HB.out.keep HB2.out)
  unfold plA
  clear hs ht hn hm hR hb1 hb2 hbox hxbox
  by_cases h1 : xu = yu
  · have e1 : (xu == yu) = true := by simpa using h1
    have e1' : (xu != yu) = false := by simpa using h1
    by_cases h2 : xs = ys
    · have e2 : (xs == ys) = true := by simpa using h2
      have e2' : (xs != ys) = false := by simpa using h2
      by_cases h3 : xc = yc
      · have e3 : (xc == yc) = true := by simpa using h3
        have e3' : (xc != yc) = false := by simpa using h3
        have HR := Lib.hid (HSA.out h1 h2 h3)
        clear h1 h2 h3
        by_cases hne : n = m
        · subst hne
          have hn2 : ((n : Int) != (n : Int)) = false := by simp
          go_enter Try.func15, Try.ntmps15
          go_wp2_with fail
          clear hw1 hP hw2 hX p0 p1 p2 p3 q0 q1 q2 q3
          go_loopg [5] n (fun g i wr => ∃ k : Nat, k ≤ n ∧ g = n - k ∧ i = .int .i64 k ∧ Hid (ps.take k = qs.take k) ∧ Below w2.heap.size w2 wr)
          case atStart => exact ⟨0, Nat.zero_le _, by omega, rfl, rfl, Below.refl _ _⟩
          case round =>
            obtain ⟨k, hk, hg, rfl, HT, hbw⟩ := hrel
            have HG := Lib.hid hg
            have HBW := Lib.hid hbw
            have HBE := Lib.hid (HB2.out.trans (hbw.mono HB2.out.size))
            obtain ⟨p0, p1, p2, p3⟩ := four_heads (keep_block HPB.out hbw)
            obtain ⟨q0, q1, q2, q3⟩ := four_heads (keep_block HXB.out hbw)
            clear hg hbw
            by_cases hlt : k < n
            · have hltz : (k : Int) < (n : Int) := by omega
              have hk0 : (0 : Int) ≤ (k : Int) := by omega
              obtain ⟨x, hx⟩ := exP_at (xs := ps) (k := k) (by rw [HN.out]; exact hlt)
              obtain ⟨y, hy⟩ := exP_at (xs := qs) (k := k) (by rw [HM.out]; exact hlt)
              obtain ⟨b, off, hAe, _, _, x0, x1⟩ := (HA2.out.keep HBW.out).at_ hx
              obtain ⟨b', off', hBe, _, _, y0, y1⟩ := (HBB2.out.keep HBW.out).at_ hy
              subst hAe hBe
              have HTN := Lib.hid (fun e => takeP_same HT hx hy e)
              have HDF := Lib.hid (fun e => differP hx hy e)
              obtain ⟨ac, at_⟩ := x
              obtain ⟨bc, bt⟩ := y
              simp only at x0 x1 y0 y1 HTN HDF
              clear hx hy
              by_cases g1 : ac = bc
              · have f1 : (ac == bc) = true := by simpa using g1
                have f1' : (ac != bc) = false := by simpa using g1
                by_cases g2 : at_ = bt
                · have f2 : ((at_ : Int) == (bt : Int)) = true := by subst g2; simp
                  have f2' : ((at_ : Int) != (bt : Int)) = false := by subst g2; simp
                  have HNX : Hid (ps.take (k + 1) = qs.take (k + 1)) := HTN.out (by rw [g1, g2])
                  clear g1 g2
                  go_wp2_with fail
                  go_quiet (fail)
                  go_wp2_with fail
                  go_roundg (n - (k + 1))
                  case measure => have := HG.out; omega
                  case rel => exact ⟨k + 1, by omega, rfl, by go_num, HNX, below_drewN HBW.out _⟩
                · have f2 : ((at_ : Int) == (bt : Int)) = false := by simp; omega
                  have f2' : ((at_ : Int) != (bt : Int)) = true := by simp; omega
                  have E : Hid (R = false) := HR.out.trans (decide_eq_false (HDF.out (fun h => g2 (by injection h))))
                  clear g1 g2
                  go_wp2_with fail
                  go_quiet (fail)
                  go_wp2_with fail
                  go_ret
                  exact ⟨ret_bool E.out.symm, below_drewN HBE.out _⟩
              · have f1 : (ac == bc) = false := by simpa using g1
                have f1' : (ac != bc) = true := by simpa using g1
                have E : Hid (R = false) := HR.out.trans (decide_eq_false (HDF.out (fun h => g1 (by injection h))))
                clear g1
                go_wp2_with fail
                go_quiet (fail)
                go_wp2_with fail
                go_ret
                exact ⟨ret_bool E.out.symm, below_drewN HBE.out _⟩
            · have hltz : ¬ (k : Int) < (n : Int) := by omega
              have E : Hid (R = true) := HR.out.trans (decide_eq_true (show ps = qs by
                have h : ps.take k = qs.take k := HT
                rwa [List.take_of_length_le (by rw [HN.out]; omega), List.take_of_length_le (by rw [HM.out]; omega)] at h))
              go_wp2_with fail
              go_ret
              exact ⟨ret_bool E.out.symm, HBE.out⟩
        · have E : Hid (R = false) := HR.out.trans (decide_eq_false (show ¬ ps = qs from fun e => hne (by rw [← HN.out, ← HM.out, e])))
          have hn2 : ((n : Int) != (m : Int)) = true := by simp; omega
          clear hne
          go_enter Try.func15, Try.ntmps15
          go_wp2_with fail
          go_ret
          exact ⟨ret_bool E.out.symm, HB2.out⟩
      · have e3 : (xc == yc) = false := by simpa using h3
        have e3' : (xc != yc) = true := by simpa using h3
        have E : Hid (R = false) := HNO.out (.inr (.inr (.inl h3)))
        clear h1 h2 h3
        go_enter Try.func15, Try.ntmps15
        go_wp2_with fail
        go_ret
        exact ⟨ret_bool E.out.symm, HB2.out⟩
    · have e2 : (xs == ys) = false := by simpa using h2
      have e2' : (xs != ys) = true := by simpa using h2
      have E : Hid (R = false) := HNO.out (.inr (.inl h2))
      clear h1 h2
      go_enter Try.func15, Try.ntmps15
      go_wp2_with fail
      go_ret
      exact ⟨ret_bool E.out.symm, HB2.out⟩
  · have e1 : (xu == yu) = false := by simpa using h1
    have e1' : (xu != yu) = true := by simpa using h1
    have E : Hid (R = false) := HNO.out (.inl h1)
    clear h1
    go_enter Try.func15, Try.ntmps15
    go_wp2_with fail
    go_ret
    exact ⟨ret_bool E.out.symm, HB2.out⟩
end Go.Proofs.Ytkgkanmccaodfaa
