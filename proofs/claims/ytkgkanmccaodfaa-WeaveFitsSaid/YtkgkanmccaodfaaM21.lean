/-
  Why a want is not woven, in the document's words.
  Conditions: the slice reads as places; the plan is right; the numbers are ints.
-/
import Derived.Test.YtkgkanmccaodfaaM19
import Derived.Test.YtkgkanmccaodfaaM20

/-
  Why a want is not woven, in the document's words.
  Conditions: the slice reads as places; the plan is right; the numbers are ints.
-/
set_option linter.unusedVariables false
set_option linter.unusedSimpArgs false
namespace Go.Proofs.Ytkgkanmccaodfaa
open Go.RowKit

theorem rowC_of_own16 {W : World} {base : Nat} {v : Value} {f : Int} {m : Nat} {l : List Pl} (h : W.ownsRow base 3 1 v 16 ((rmL f m l 16).map (Value.int .i64))) : ∃ g cap, v = .slice (some ⟨g, 0, none⟩) 16 cap ∧ base ≤ g ∧ 16 ≤ cap ∧ RowC W g fun i => roomN f m l (i : Int) := by
  obtain ⟨g, cap, hv, hg, hrow⟩ := rowC_of_own h
  obtain ⟨h1, h2⟩ := h
  rcases h2 with ⟨_, h0⟩ | ⟨g', cap', cur, hv', hg', hh, hn, hc, hs, ht⟩
  · exact absurd h0 (by decide)
  · rw [hv] at hv'
    cases hv'
    exact ⟨g, cap, hv, hg, hn, hrow⟩
theorem one_span (W : World) (u s : Int) : SpansAt (W.alloc (.cells #[.int .i64 u, .int .i64 s] 35)) (.slice (some ⟨W.heap.size, 0, none⟩) 1 1) [(u, s)] := by
  refine spans_of_own (base := 0) (e := 35) ?_ (by rw [List.length_singleton]; omega)
  have := World.ownsRow_lit (base := 0) (e := 35) (size := 2) W #[.int .i64 u, .int .i64 s] 1 (Nat.zero_le _) (by unfold maxLen; omega) rfl
  simpa [spansCells, spanCells] using this

set_option maxRecDepth 100000 in
set_option maxHeartbeats 8000000 in
theorem refWhy21_any (f : Int) (m : Nat) (v : Value) (l : List Pl) (u s : Int) (w : World) (h : PlsAt w v l) (hL : LightL l) (hr : Right f m l) (hu : Int64 u) (hs : Int64 s) :
    Calls Try.prog 17 #[planA f m v, .agg #[.int .i64 u, .int .i64 s]] w (fun e w' => ∃ E : Int, e = .returned (.int .i64 E) ∧ Why21 f m l (u, s) E ∧ Below w.heap.size w w') := by
  have mixed : Try.prog.follows .mixedOrders = true := by kernel_rfl
  have hm := hr.m16
  have HWY := Lib.hid (fun vw W h hw => refWhy_any f m v l vw [(u, s)] W h hL hw (fun p hp => by rw [List.mem_singleton] at hp; subst hp; exact ⟨hu, hs⟩) (by omega))
  have HFI := Lib.hid (fun (h1 : 1 ≤ s) W h => refFirst_any f m v l s W h hL hr h1)
  have HSP := Lib.hid (fun W h => refSplits_any f m v l W h (by have := hL.len; omega))
  have HCO := Lib.hid (fun W => refCores_any f m v W (by omega))
  have HGA := Lib.hid (fun W h => refGaps_any f m v l W h hL hr)
  have HRO := Lib.hid (fun W h => refRooms21_any f m v l W h hL hr)
  have HMO := Lib.hid (fun g h c1 c2 h1 h2 W hG hR => refMost_any (gapT f m l) (rmN f m l) g h c1 c2 h1 h2 (fun c _ => gap_lt f m l c) (fun c hc => by have := (hr.rm hc).2.1; have := hr.f64; omega) 0 (by omega) W hG hR)
  have HRC : Hid (∀ (W : World) (g : Nat), RowC W g (fun i => roomN f m l (i : Int)) → RowC W g (fun i => ((rmN f m l i : Nat) : Int))) := Lib.hid (fun W g h => h.congr fun i hi => (hr.rm hi).1.symm)
  have HH := Lib.hid h
  have hsp : splitsN l ≤ 300 := Nat.le_trans (List.countP_le_length) hL.len
  unfold planA at HWY HFI HSP HCO HGA HRO
  obtain ⟨w1, P, hw1, hP, hPl, hb1, hbox⟩ := box_any w #[.int .i64 f, .int .u32 m, v] 25
  obtain ⟨w2, Q, hw2, hQ, hQl, hb2, hqox⟩ := box_any w1 #[.int .i64 u, .int .i64 s] 35
  have HB2 := Lib.hid (hb1.trans (hb2.mono hb1.size))
  have HPB := Lib.hid (keep_block hbox hb2)
  have HQB := Lib.hid hqox
  have HSA : Hid (∀ W : World, Below w2.heap.size w2 W → W.cell? ⟨P, 0, none⟩ = some (.int .i64 f) ∧ W.cell? ⟨P, 1, none⟩ = some (.int .u32 m) ∧ W.cell? ⟨P, 2, none⟩ = some (v) ∧ W.cell? ⟨Q, 0, none⟩ = some (.int .i64 u) ∧ W.cell? ⟨Q, 1, none⟩ = some (.int .i64 s)) := Lib.hid (fun W hk => by
    obtain ⟨a, b, c⟩ := three_heads (keep_block HPB.out hk)
    obtain ⟨d, e⟩ := two_heads (keep_block HQB.out hk)
    exact ⟨a, b, c, d, e⟩)
  have HPL : Hid (∀ W : World, Below w2.heap.size w2 W → PlsAt W v l) := Lib.hid (fun W hk => HH.out.keep (HB2.out.trans (hk.mono HB2.out.size)))
  obtain ⟨r0, r1, r2, q0, q1⟩ := HSA.out w2 (Below.refl _ _)
  unfold planA
  clear h hb1 hb2 hbox hqox hL hr hu hs hm
  have HA0 := Lib.hid (show Below w2.heap.size w2 (w2.alloc (.cells #[.int .i64 u, .int .i64 s] 35)) from (Below.refl _ _).alloc (Nat.le_refl _) _)
  have HA1 := Lib.hid (one_span w2 u s)
  go_enter Try.func17, Try.ntmps17
  go_wp2_with fail
  refine (HWY.out _ _ (HPL.out _ HA0.out) HA1.out).mono ?_
  rintro e w3 ⟨E, rfl, hwhy, hb3⟩
  have HK3 := Lib.hid (HA0.out.trans (hb3.mono HA0.out.size))
  have HWH := Lib.hid hwhy
  clear hb3 hwhy r0 r1 r2 q0 q1 hw1 hw2 hP hQ
  by_cases hE : E = 0
  · subst hE
    have HGO := Lib.hid HWH.out.zero
    have h1s : 1 ≤ s := ((WOk.of_chk HGO.out.chk).2.all _ (List.mem_singleton.2 rfl)).2.1
    have HFI := Lib.hid (HFI.out h1s)
    have HF : Hid (s.toNat = s.toNat ∧ 1 ≤ s) := Lib.hid ⟨rfl, h1s⟩
    clear h1s
    have hkd := HK3.out.drew
    go_wp2_with fail
    cases hf : firstR f m l s with
    | some c =>
      rw [hf] at HFI
      have HFR := Lib.hid hf
      clear hf
      have hc0 : (0 : Int) ≤ coreR (some c) := by show (0 : Int) ≤ (c : Int); omega
      obtain ⟨cr, hcr⟩ : ∃ cr, coreR (some c) = cr := ⟨_, rfl⟩
      rw [hcr] at hc0 HFI
      clear hcr
      refine wp_region_held_drew (S := fun w' => w'.cell? ⟨P, 0, none⟩ = some (.int .i64 f) ∧ w'.cell? ⟨P, 1, none⟩ = some (.int .u32 m) ∧ w'.cell? ⟨P, 2, none⟩ = some (v) ∧ w'.cell? ⟨Q, 0, none⟩ = some (.int .i64 u) ∧ w'.cell? ⟨Q, 1, none⟩ = some (.int .i64 s)) (by kernel_rfl) ?_ (fun hHeld => ?_)
      · exact HSA.out _ hkd
      refine wpAnyH_take (i := 0) (oi := ⟨some 13, _, _, _, _, _⟩) (v := ?_) rfl (by kernel_rfl) (by kernel_rfl) (by kernel_rfl) (fun _ _ _ h => h) (Or.inl ⟨by kernel_rfl, ?_⟩) (by assumption) ?_
      rotate_left
      · (intro w hSw; (try dsimp only at hSw); go_simp; try with_reducible rfl)
      (try simp only [Act.put, List.setIfInBounds_toArray, List.set_cons_zero, List.set_cons_succ])
      refine wpAnyH_take (i := 1) (oi := ⟨some 14, _, _, _, _, _⟩) (v := ?_) rfl (by kernel_rfl) (by kernel_rfl) (by kernel_rfl) (fun _ _ _ h => h) (Or.inl ⟨by kernel_rfl, ?_⟩) (by assumption) ?_
      rotate_left
      · (intro w hSw; (try dsimp only at hSw); go_simp; try with_reducible rfl)
      (try simp only [Act.put, List.setIfInBounds_toArray, List.set_cons_zero, List.set_cons_succ])
      refine wpAnyH_take (i := 2) (oi := ⟨some 15, _, _, _, _, _⟩) (v := ?_) rfl (by kernel_rfl) (by kernel_rfl) (by kernel_rfl) (fun _ _ _ h => h) (Or.inl ⟨by kernel_rfl, ?_⟩) (by assumption) ?_
      rotate_left
      · (intro w hSw; (try dsimp only at hSw); go_simp; try with_reducible rfl)
      (try simp only [Act.put, List.setIfInBounds_toArray, List.set_cons_zero, List.set_cons_succ])
      refine wpAnyH_ready (rs := [3]) (by kernel_rfl) (by simp) ?_
      refine AllReadyH.cons (o := ⟨some 16, _, _, _, _, _⟩) rfl (fun K hK => ?_) AllReadyH.nil
      rw [if_pos (by kernel_rfl)]
      go_simp
      go_at_call 39; refine (HFI.out _ (HPL.out _ hkd)).mono ?_; rintro e wa ⟨rfl, hba⟩
      have hka := hkd.trans (hba.mono hkd.size)
      refine hK.out _ _ ?_ (fun hHeld => ?_)
      · exact HSA.out _ hka
      clear hK K
      (try simp only [Act.put, List.setIfInBounds_toArray, List.set_cons_zero, List.set_cons_succ])
      refine wpAnyH_take (i := 4) (oi := ⟨some 17, _, _, _, _, _⟩) (v := ?_) rfl (by kernel_rfl) (by kernel_rfl) (by kernel_rfl) (fun _ _ _ h => h) (Or.inl ⟨by kernel_rfl, ?_⟩) (by assumption) ?_
      rotate_left
      · (intro w hSw; (try dsimp only at hSw); go_simp; try with_reducible rfl)
      (try simp only [Act.put, List.setIfInBounds_toArray, List.set_cons_zero, List.set_cons_succ])
      refine wpAnyH_take (i := 5) (oi := ⟨some 18, _, _, _, _, _⟩) (v := ?_) rfl (by kernel_rfl) (by kernel_rfl) (by kernel_rfl) (fun _ _ _ h => h) (Or.inl ⟨by kernel_rfl, ?_⟩) (by assumption) ?_
      rotate_left
      · (intro w hSw; (try dsimp only at hSw); go_simp; try with_reducible rfl)
      (try simp only [Act.put, List.setIfInBounds_toArray, List.set_cons_zero, List.set_cons_succ])
      refine wpAnyH_take (i := 6) (oi := ⟨some 19, _, _, _, _, _⟩) (v := undef) rfl (by kernel_rfl) (by kernel_rfl) (by kernel_rfl) (fun _ _ _ h => h) (Or.inr ⟨by kernel_rfl, rfl⟩) (by assumption) ?_
      (try simp only [Act.put, List.setIfInBounds_toArray, List.set_cons_zero, List.set_cons_succ])
      refine wpAnyH_take (i := 7) (oi := ⟨some 20, _, _, _, _, _⟩) (v := undef) rfl (by kernel_rfl) (by kernel_rfl) (by kernel_rfl) (fun _ _ _ h => h) (Or.inr ⟨by kernel_rfl, rfl⟩) (by assumption) ?_
      (try simp only [Act.put, List.setIfInBounds_toArray, List.set_cons_zero, List.set_cons_succ])
      refine wpAnyH_take (i := 8) (oi := ⟨some 21, _, _, _, _, _⟩) (v := undef) rfl (by kernel_rfl) (by kernel_rfl) (by kernel_rfl) (fun _ _ _ h => h) (Or.inr ⟨by kernel_rfl, rfl⟩) (by assumption) ?_
      (try simp only [Act.put, List.setIfInBounds_toArray, List.set_cons_zero, List.set_cons_succ])
      refine wpAnyH_take (i := 9) (oi := ⟨some 22, _, _, _, _, _⟩) (v := undef) rfl (by kernel_rfl) (by kernel_rfl) (by kernel_rfl) (fun _ _ _ h => h) (Or.inr ⟨by kernel_rfl, rfl⟩) (by assumption) ?_
      (try simp only [Act.put, List.setIfInBounds_toArray, List.set_cons_zero, List.set_cons_succ])
      refine wpAnyH_take (i := 10) (oi := ⟨some 23, _, _, _, _, _⟩) (v := undef) rfl (by kernel_rfl) (by kernel_rfl) (by kernel_rfl) (fun _ _ _ h => h) (Or.inr ⟨by kernel_rfl, rfl⟩) (by assumption) ?_
      (try simp only [Act.put, List.setIfInBounds_toArray, List.set_cons_zero, List.set_cons_succ])
      refine wpAnyH_take (i := 11) (oi := ⟨some 24, _, _, _, _, _⟩) (v := undef) rfl (by kernel_rfl) (by kernel_rfl) (by kernel_rfl) (fun _ _ _ h => h) (Or.inr ⟨by kernel_rfl, rfl⟩) (by assumption) ?_
      (try simp only [Act.put, List.setIfInBounds_toArray, List.set_cons_zero, List.set_cons_succ])
      refine wpAnyH_take (i := 12) (oi := ⟨some 25, _, _, _, _, _⟩) (v := undef) rfl (by kernel_rfl) (by kernel_rfl) (by kernel_rfl) (fun _ _ _ h => h) (Or.inr ⟨by kernel_rfl, rfl⟩) (by assumption) ?_
      (try simp only [Act.put, List.setIfInBounds_toArray, List.set_cons_zero, List.set_cons_succ])
      refine wpAnyH_take (i := 13) (oi := ⟨some 26, _, _, _, _, _⟩) (v := ?_) rfl (by kernel_rfl) (by kernel_rfl) (by kernel_rfl) (fun _ _ _ h => h) (Or.inl ⟨by kernel_rfl, ?_⟩) (by assumption) ?_
      rotate_left
      · (intro w hSw; (try dsimp only at hSw); go_simp; try with_reducible rfl)
      (try simp only [Act.put, List.setIfInBounds_toArray, List.set_cons_zero, List.set_cons_succ])
      refine wpAnyH_done (by kernel_rfl) ?_ _
      have HEND := Lib.hid (HB2.out.trans (hka.mono HB2.out.size))
      clear hHeld hkd hka hba
      go_wp2_with fail
      go_ret
      exact ⟨15, rfl, .inr (.inl ⟨HGO.out, .inl (by rw [HFR.out]; exact fun e => by cases e), rfl⟩), HEND.out⟩
    | none =>
      rw [hf] at HFI
      have HFR := Lib.hid hf
      clear hf
      have hc0 : coreR none = -1 := rfl
      rw [hc0] at HFI
      clear hc0
      obtain ⟨SN, hSN⟩ : ∃ SN, splitsN l = SN := ⟨_, rfl⟩
      obtain ⟨CN, hCN⟩ : ∃ CN, cntT m 16 = CN := ⟨_, rfl⟩
      have HSN := Lib.hid hSN
      have HCN : Hid (coresN m = CN) := Lib.hid hCN
      rw [hSN] at HSP hsp
      have hcn : CN ≤ 16 := by rw [← hCN]; exact cntT_le m 16
      clear hSN
      obtain ⟨X, hX⟩ : ∃ X : Int, X = (SN : Int) + 1 := ⟨_, rfl⟩
      have hwS : IntKind.i64.wrap ((SN : Int) + 1) = X := by rw [IntKind.wrap_i64, hX]; omega
      by_cases hge : CN ≤ SN + 1
      · have hd1 : decide ((CN : Int) ≤ X) = true := decide_eq_true (by omega)
        clear hX
        refine wp_region_held_drew (S := fun w' => w'.cell? ⟨P, 0, none⟩ = some (.int .i64 f) ∧ w'.cell? ⟨P, 1, none⟩ = some (.int .u32 m) ∧ w'.cell? ⟨P, 2, none⟩ = some (v) ∧ w'.cell? ⟨Q, 0, none⟩ = some (.int .i64 u) ∧ w'.cell? ⟨Q, 1, none⟩ = some (.int .i64 s)) (by kernel_rfl) ?_ (fun hHeld => ?_)
        · exact HSA.out _ hkd
        refine wpAnyH_take (i := 0) (oi := ⟨some 13, _, _, _, _, _⟩) (v := ?_) rfl (by kernel_rfl) (by kernel_rfl) (by kernel_rfl) (fun _ _ _ h => h) (Or.inl ⟨by kernel_rfl, ?_⟩) (by assumption) ?_
        rotate_left
        · (intro w hSw; (try dsimp only at hSw); go_simp; try with_reducible rfl)
        (try simp only [Act.put, List.setIfInBounds_toArray, List.set_cons_zero, List.set_cons_succ])
        refine wpAnyH_take (i := 1) (oi := ⟨some 14, _, _, _, _, _⟩) (v := ?_) rfl (by kernel_rfl) (by kernel_rfl) (by kernel_rfl) (fun _ _ _ h => h) (Or.inl ⟨by kernel_rfl, ?_⟩) (by assumption) ?_
        rotate_left
        · (intro w hSw; (try dsimp only at hSw); go_simp; try with_reducible rfl)
        (try simp only [Act.put, List.setIfInBounds_toArray, List.set_cons_zero, List.set_cons_succ])
        refine wpAnyH_take (i := 2) (oi := ⟨some 15, _, _, _, _, _⟩) (v := ?_) rfl (by kernel_rfl) (by kernel_rfl) (by kernel_rfl) (fun _ _ _ h => h) (Or.inl ⟨by kernel_rfl, ?_⟩) (by assumption) ?_
        rotate_left
        · (intro w hSw; (try dsimp only at hSw); go_simp; try with_reducible rfl)
        (try simp only [Act.put, List.setIfInBounds_toArray, List.set_cons_zero, List.set_cons_succ])
        refine wpAnyH_ready (rs := [3]) (by kernel_rfl) (by simp) ?_
        refine AllReadyH.cons (o := ⟨some 16, _, _, _, _, _⟩) rfl (fun K hK => ?_) AllReadyH.nil
        rw [if_pos (by kernel_rfl)]
        go_simp
        go_at_call 39; refine (HFI.out _ (HPL.out _ hkd)).mono ?_; rintro e wa ⟨rfl, hba⟩
        have hka := hkd.trans (hba.mono hkd.size)
        refine hK.out _ _ ?_ (fun hHeld => ?_)
        · exact HSA.out _ hka
        clear hK K
        (try simp only [Act.put, List.setIfInBounds_toArray, List.set_cons_zero, List.set_cons_succ])
        refine wpAnyH_take (i := 4) (oi := ⟨some 17, _, _, _, _, _⟩) (v := ?_) rfl (by kernel_rfl) (by kernel_rfl) (by kernel_rfl) (fun _ _ _ h => h) (Or.inl ⟨by kernel_rfl, ?_⟩) (by assumption) ?_
        rotate_left
        · (intro w hSw; (try dsimp only at hSw); go_simp; try with_reducible rfl)
        (try simp only [Act.put, List.setIfInBounds_toArray, List.set_cons_zero, List.set_cons_succ])
        refine wpAnyH_take (i := 5) (oi := ⟨some 18, _, _, _, _, _⟩) (v := ?_) rfl (by kernel_rfl) (by kernel_rfl) (by kernel_rfl) (fun _ _ _ h => h) (Or.inl ⟨by kernel_rfl, ?_⟩) (by assumption) ?_
        rotate_left
        · (intro w hSw; (try dsimp only at hSw); go_simp; try with_reducible rfl)
        (try simp only [Act.put, List.setIfInBounds_toArray, List.set_cons_zero, List.set_cons_succ])
        refine wpAnyH_take (i := 6) (oi := ⟨some 19, _, _, _, _, _⟩) (v := ?_) rfl (by kernel_rfl) (by kernel_rfl) (by kernel_rfl) (fun _ _ _ h => h) (Or.inl ⟨by kernel_rfl, ?_⟩) (by assumption) ?_
        rotate_left
        · (intro w hSw; (try dsimp only at hSw); go_simp; try with_reducible rfl)
        (try simp only [Act.put, List.setIfInBounds_toArray, List.set_cons_zero, List.set_cons_succ])
        refine wpAnyH_take (i := 9) (oi := ⟨some 22, _, _, _, _, _⟩) (v := ?_) rfl (by kernel_rfl) (by kernel_rfl) (by kernel_rfl) (fun _ _ _ h => h) (Or.inl ⟨by kernel_rfl, ?_⟩) (by assumption) ?_
        rotate_left
        · (intro w hSw; (try dsimp only at hSw); go_simp; try with_reducible rfl)
        (try simp only [Act.put, List.setIfInBounds_toArray, List.set_cons_zero, List.set_cons_succ])
        refine wpAnyH_ready (rs := [7]) (by kernel_rfl) (by simp) ?_
        refine AllReadyH.cons (o := ⟨some 20, _, _, _, _, _⟩) rfl (fun K hK => ?_) AllReadyH.nil
        rw [if_pos (by kernel_rfl)]
        go_simp
        go_at_call 24; refine (HSP.out _ (HPL.out _ hka)).mono ?_; rintro e wb ⟨rfl, hbb⟩
        have hkb := hka.trans (hbb.mono hka.size)
        refine hK.out _ _ ?_ (fun hHeld => ?_)
        · exact HSA.out _ hkb
        clear hK K
        (try simp only [Act.put, List.setIfInBounds_toArray, List.set_cons_zero, List.set_cons_succ])
        refine wpAnyH_take (i := 8) (oi := ⟨some 21, _, _, _, _, _⟩) (v := ?_) rfl (by kernel_rfl) (by kernel_rfl) (by kernel_rfl) (fun _ _ _ h => h) (Or.inl ⟨by kernel_rfl, ?_⟩) (by assumption) ?_
        rotate_left
        · (intro w hSw; (try dsimp only at hSw); go_simp; try with_reducible rfl)
        (try simp only [Act.put, List.setIfInBounds_toArray, List.set_cons_zero, List.set_cons_succ])
        refine wpAnyH_ready (rs := [10]) (by kernel_rfl) (by simp) ?_
        refine AllReadyH.cons (o := ⟨some 23, _, _, _, _, _⟩) rfl (fun K hK => ?_) AllReadyH.nil
        rw [if_pos (by kernel_rfl)]
        go_simp
        go_at_call 10; refine (HCO.out _).mono ?_; rintro e wc ⟨vc, rfl, hvc, hbc⟩
        obtain ⟨Ac, cc, rfl, _, _⟩ := hvc
        rw [ticksI_length, hCN]
        have hkc := hkb.trans (hbc.mono hkb.size)
        refine hK.out _ _ ?_ (fun hHeld => ?_)
        · exact HSA.out _ hkc
        clear hK K
        (try simp only [Act.put, List.setIfInBounds_toArray, List.set_cons_zero, List.set_cons_succ])
        refine wpAnyH_take (i := 11) (oi := ⟨some 24, _, _, _, _, _⟩) (v := ?_) rfl (by kernel_rfl) (by kernel_rfl) (by kernel_rfl) (fun _ _ _ h => h) (Or.inl ⟨by kernel_rfl, ?_⟩) (by assumption) ?_
        rotate_left
        · (intro w hSw; (try dsimp only at hSw); go_simp; try with_reducible rfl)
        (try simp only [Act.put, List.setIfInBounds_toArray, List.set_cons_zero, List.set_cons_succ])
        refine wpAnyH_take (i := 12) (oi := ⟨some 25, _, _, _, _, _⟩) (v := ?_) rfl (by kernel_rfl) (by kernel_rfl) (by kernel_rfl) (fun _ _ _ h => h) (Or.inl ⟨by kernel_rfl, ?_⟩) (by assumption) ?_
        rotate_left
        · (intro w hSw; (try dsimp only at hSw); go_simp; try with_reducible rfl)
        (try simp only [Act.put, List.setIfInBounds_toArray, List.set_cons_zero, List.set_cons_succ])
        refine wpAnyH_take (i := 13) (oi := ⟨some 26, _, _, _, _, _⟩) (v := ?_) rfl (by kernel_rfl) (by kernel_rfl) (by kernel_rfl) (fun _ _ _ h => h) (Or.inl ⟨by kernel_rfl, ?_⟩) (by assumption) ?_
        rotate_left
        · (intro w hSw; (try dsimp only at hSw); go_simp; try with_reducible rfl)
        (try simp only [Act.put, List.setIfInBounds_toArray, List.set_cons_zero, List.set_cons_succ])
        refine wpAnyH_done (by kernel_rfl) ?_ _
        have HEND := Lib.hid (HB2.out.trans (hkc.mono HB2.out.size))
        clear hHeld hkd hka hba hkb hkc hbb hbc
        go_wp2_with fail
        go_ret
        exact ⟨15, rfl, .inr (.inl ⟨HGO.out, .inr (by rw [HCN.out, HSN.out]; exact hge), rfl⟩), HEND.out⟩
      · have hd1 : decide ((CN : Int) ≤ X) = false := decide_eq_false (by omega)
        clear hX
        refine wp_region_held_drew (S := fun w' => w'.cell? ⟨P, 0, none⟩ = some (.int .i64 f) ∧ w'.cell? ⟨P, 1, none⟩ = some (.int .u32 m) ∧ w'.cell? ⟨P, 2, none⟩ = some (v) ∧ w'.cell? ⟨Q, 0, none⟩ = some (.int .i64 u) ∧ w'.cell? ⟨Q, 1, none⟩ = some (.int .i64 s)) (by kernel_rfl) ?_ (fun hHeld => ?_)
        · exact HSA.out _ hkd
        refine wpAnyH_take (i := 0) (oi := ⟨some 13, _, _, _, _, _⟩) (v := ?_) rfl (by kernel_rfl) (by kernel_rfl) (by kernel_rfl) (fun _ _ _ h => h) (Or.inl ⟨by kernel_rfl, ?_⟩) (by assumption) ?_
        rotate_left
        · (intro w hSw; (try dsimp only at hSw); go_simp; try with_reducible rfl)
        (try simp only [Act.put, List.setIfInBounds_toArray, List.set_cons_zero, List.set_cons_succ])
        refine wpAnyH_take (i := 1) (oi := ⟨some 14, _, _, _, _, _⟩) (v := ?_) rfl (by kernel_rfl) (by kernel_rfl) (by kernel_rfl) (fun _ _ _ h => h) (Or.inl ⟨by kernel_rfl, ?_⟩) (by assumption) ?_
        rotate_left
        · (intro w hSw; (try dsimp only at hSw); go_simp; try with_reducible rfl)
        (try simp only [Act.put, List.setIfInBounds_toArray, List.set_cons_zero, List.set_cons_succ])
        refine wpAnyH_take (i := 2) (oi := ⟨some 15, _, _, _, _, _⟩) (v := ?_) rfl (by kernel_rfl) (by kernel_rfl) (by kernel_rfl) (fun _ _ _ h => h) (Or.inl ⟨by kernel_rfl, ?_⟩) (by assumption) ?_
        rotate_left
        · (intro w hSw; (try dsimp only at hSw); go_simp; try with_reducible rfl)
        (try simp only [Act.put, List.setIfInBounds_toArray, List.set_cons_zero, List.set_cons_succ])
        refine wpAnyH_ready (rs := [3]) (by kernel_rfl) (by simp) ?_
        refine AllReadyH.cons (o := ⟨some 16, _, _, _, _, _⟩) rfl (fun K hK => ?_) AllReadyH.nil
        rw [if_pos (by kernel_rfl)]
        go_simp
        go_at_call 39; refine (HFI.out _ (HPL.out _ hkd)).mono ?_; rintro e wa ⟨rfl, hba⟩
        have hka := hkd.trans (hba.mono hkd.size)
        refine hK.out _ _ ?_ (fun hHeld => ?_)
        · exact HSA.out _ hka
        clear hK K
        (try simp only [Act.put, List.setIfInBounds_toArray, List.set_cons_zero, List.set_cons_succ])
        refine wpAnyH_take (i := 4) (oi := ⟨some 17, _, _, _, _, _⟩) (v := ?_) rfl (by kernel_rfl) (by kernel_rfl) (by kernel_rfl) (fun _ _ _ h => h) (Or.inl ⟨by kernel_rfl, ?_⟩) (by assumption) ?_
        rotate_left
        · (intro w hSw; (try dsimp only at hSw); go_simp; try with_reducible rfl)
        (try simp only [Act.put, List.setIfInBounds_toArray, List.set_cons_zero, List.set_cons_succ])
        refine wpAnyH_take (i := 5) (oi := ⟨some 18, _, _, _, _, _⟩) (v := ?_) rfl (by kernel_rfl) (by kernel_rfl) (by kernel_rfl) (fun _ _ _ h => h) (Or.inl ⟨by kernel_rfl, ?_⟩) (by assumption) ?_
        rotate_left
        · (intro w hSw; (try dsimp only at hSw); go_simp; try with_reducible rfl)
        (try simp only [Act.put, List.setIfInBounds_toArray, List.set_cons_zero, List.set_cons_succ])
        refine wpAnyH_take (i := 6) (oi := ⟨some 19, _, _, _, _, _⟩) (v := ?_) rfl (by kernel_rfl) (by kernel_rfl) (by kernel_rfl) (fun _ _ _ h => h) (Or.inl ⟨by kernel_rfl, ?_⟩) (by assumption) ?_
        rotate_left
        · (intro w hSw; (try dsimp only at hSw); go_simp; try with_reducible rfl)
        (try simp only [Act.put, List.setIfInBounds_toArray, List.set_cons_zero, List.set_cons_succ])
        refine wpAnyH_take (i := 9) (oi := ⟨some 22, _, _, _, _, _⟩) (v := ?_) rfl (by kernel_rfl) (by kernel_rfl) (by kernel_rfl) (fun _ _ _ h => h) (Or.inl ⟨by kernel_rfl, ?_⟩) (by assumption) ?_
        rotate_left
        · (intro w hSw; (try dsimp only at hSw); go_simp; try with_reducible rfl)
        (try simp only [Act.put, List.setIfInBounds_toArray, List.set_cons_zero, List.set_cons_succ])
        refine wpAnyH_ready (rs := [7]) (by kernel_rfl) (by simp) ?_
        refine AllReadyH.cons (o := ⟨some 20, _, _, _, _, _⟩) rfl (fun K hK => ?_) AllReadyH.nil
        rw [if_pos (by kernel_rfl)]
        go_simp
        go_at_call 24; refine (HSP.out _ (HPL.out _ hka)).mono ?_; rintro e wb ⟨rfl, hbb⟩
        have hkb := hka.trans (hbb.mono hka.size)
        refine hK.out _ _ ?_ (fun hHeld => ?_)
        · exact HSA.out _ hkb
        clear hK K
        (try simp only [Act.put, List.setIfInBounds_toArray, List.set_cons_zero, List.set_cons_succ])
        refine wpAnyH_take (i := 8) (oi := ⟨some 21, _, _, _, _, _⟩) (v := ?_) rfl (by kernel_rfl) (by kernel_rfl) (by kernel_rfl) (fun _ _ _ h => h) (Or.inl ⟨by kernel_rfl, ?_⟩) (by assumption) ?_
        rotate_left
        · (intro w hSw; (try dsimp only at hSw); go_simp; try with_reducible rfl)
        (try simp only [Act.put, List.setIfInBounds_toArray, List.set_cons_zero, List.set_cons_succ])
        refine wpAnyH_ready (rs := [10]) (by kernel_rfl) (by simp) ?_
        refine AllReadyH.cons (o := ⟨some 23, _, _, _, _, _⟩) rfl (fun K hK => ?_) AllReadyH.nil
        rw [if_pos (by kernel_rfl)]
        go_simp
        go_at_call 10; refine (HCO.out _).mono ?_; rintro e wc ⟨vc, rfl, hvc, hbc⟩
        obtain ⟨Ac, cc, rfl, _, _⟩ := hvc
        rw [ticksI_length, hCN]
        have hkc := hkb.trans (hbc.mono hkb.size)
        refine hK.out _ _ ?_ (fun hHeld => ?_)
        · exact HSA.out _ hkc
        clear hK K
        (try simp only [Act.put, List.setIfInBounds_toArray, List.set_cons_zero, List.set_cons_succ])
        refine wpAnyH_take (i := 11) (oi := ⟨some 24, _, _, _, _, _⟩) (v := ?_) rfl (by kernel_rfl) (by kernel_rfl) (by kernel_rfl) (fun _ _ _ h => h) (Or.inl ⟨by kernel_rfl, ?_⟩) (by assumption) ?_
        rotate_left
        · (intro w hSw; (try dsimp only at hSw); go_simp; try with_reducible rfl)
        (try simp only [Act.put, List.setIfInBounds_toArray, List.set_cons_zero, List.set_cons_succ])
        refine wpAnyH_take (i := 12) (oi := ⟨some 25, _, _, _, _, _⟩) (v := ?_) rfl (by kernel_rfl) (by kernel_rfl) (by kernel_rfl) (fun _ _ _ h => h) (Or.inl ⟨by kernel_rfl, ?_⟩) (by assumption) ?_
        rotate_left
        · (intro w hSw; (try dsimp only at hSw); go_simp; try with_reducible rfl)
        (try simp only [Act.put, List.setIfInBounds_toArray, List.set_cons_zero, List.set_cons_succ])
        refine wpAnyH_take (i := 13) (oi := ⟨some 26, _, _, _, _, _⟩) (v := ?_) rfl (by kernel_rfl) (by kernel_rfl) (by kernel_rfl) (fun _ _ _ h => h) (Or.inl ⟨by kernel_rfl, ?_⟩) (by assumption) ?_
        rotate_left
        · (intro w hSw; (try dsimp only at hSw); go_simp; try with_reducible rfl)
        (try simp only [Act.put, List.setIfInBounds_toArray, List.set_cons_zero, List.set_cons_succ])
        refine wpAnyH_done (by kernel_rfl) ?_ _
        have HK6 := Lib.hid hkc
        clear hHeld hkd hka hba hkb hkc hbb hbc
        have hkd6 := HK6.out.drew
        obtain ⟨M, hM⟩ : ∃ M, mostT (gapT f m l) (rmN f m l) 0 = M := ⟨_, rfl⟩
        have HM := Lib.hid hM
        rw [hM] at HMO
        clear hM
        go_wp2_with fail
        by_cases hlt : (M : Int) < s
        · have hd2 : decide ((M : Int) < s) = true := decide_eq_true hlt
          refine wp_region_held_drew (S := fun w' => w'.cell? ⟨P, 0, none⟩ = some (.int .i64 f) ∧ w'.cell? ⟨P, 1, none⟩ = some (.int .u32 m) ∧ w'.cell? ⟨P, 2, none⟩ = some (v) ∧ w'.cell? ⟨Q, 0, none⟩ = some (.int .i64 u) ∧ w'.cell? ⟨Q, 1, none⟩ = some (.int .i64 s)) (by kernel_rfl) ?_ (fun hHeld => ?_)
          · exact HSA.out _ hkd6
          refine wpAnyH_take (i := 0) (oi := ⟨some 27, _, _, _, _, _⟩) (v := ?_) rfl (by kernel_rfl) (by kernel_rfl) (by kernel_rfl) (fun _ _ _ h => h) (Or.inl ⟨by kernel_rfl, ?_⟩) (by assumption) ?_
          rotate_left
          · (intro w hSw; (try dsimp only at hSw); go_simp; try with_reducible rfl)
          (try simp only [Act.put, List.setIfInBounds_toArray, List.set_cons_zero, List.set_cons_succ])
          refine wpAnyH_take (i := 2) (oi := ⟨some 29, _, _, _, _, _⟩) (v := ?_) rfl (by kernel_rfl) (by kernel_rfl) (by kernel_rfl) (fun _ _ _ h => h) (Or.inl ⟨by kernel_rfl, ?_⟩) (by assumption) ?_
          rotate_left
          · (intro w hSw; (try dsimp only at hSw); go_simp; try with_reducible rfl)
          (try simp only [Act.put, List.setIfInBounds_toArray, List.set_cons_zero, List.set_cons_succ])
          refine wpAnyH_take (i := 5) (oi := ⟨some 32, _, _, _, _, _⟩) (v := ?_) rfl (by kernel_rfl) (by kernel_rfl) (by kernel_rfl) (fun _ _ _ h => h) (Or.inl ⟨by kernel_rfl, ?_⟩) (by assumption) ?_
          rotate_left
          · (intro w hSw; (try dsimp only at hSw); go_simp; try with_reducible rfl)
          (try simp only [Act.put, List.setIfInBounds_toArray, List.set_cons_zero, List.set_cons_succ])
          refine wpAnyH_take (i := 6) (oi := ⟨some 33, _, _, _, _, _⟩) (v := ?_) rfl (by kernel_rfl) (by kernel_rfl) (by kernel_rfl) (fun _ _ _ h => h) (Or.inl ⟨by kernel_rfl, ?_⟩) (by assumption) ?_
          rotate_left
          · (intro w hSw; (try dsimp only at hSw); go_simp; try with_reducible rfl)
          (try simp only [Act.put, List.setIfInBounds_toArray, List.set_cons_zero, List.set_cons_succ])
          refine wpAnyH_ready (rs := [1]) (by kernel_rfl) (by simp) ?_
          refine AllReadyH.cons (o := ⟨some 28, _, _, _, _, _⟩) rfl (fun K hK => ?_) AllReadyH.nil
          rw [if_pos (by kernel_rfl)]
          go_simp
          go_at_call 12; refine (HGA.out _ (HPL.out _ hkd6)).mono ?_; rintro e wd ⟨v7, rfl, hown7, hbd⟩
          obtain ⟨g7, c7, rfl, _, hc7, hrow7⟩ := rowU_of_own hown7
          have hke := hkd6.trans (hbd.mono hkd6.size)
          refine hK.out _ _ ?_ (fun hHeld => ?_)
          · exact HSA.out _ hke
          clear hK K
          (try simp only [Act.put, List.setIfInBounds_toArray, List.set_cons_zero, List.set_cons_succ])
          refine wpAnyH_ready (rs := [3]) (by kernel_rfl) (by simp) ?_
          refine AllReadyH.cons (o := ⟨some 30, _, _, _, _, _⟩) rfl (fun K hK => ?_) AllReadyH.nil
          rw [if_pos (by kernel_rfl)]
          go_simp
          go_at_call 13; refine (HRO.out _ (HPL.out _ hke)).mono ?_; rintro e we ⟨v8, rfl, hown8, hbe⟩
          obtain ⟨g8, c8, rfl, _, hc8, hrow8⟩ := rowC_of_own16 hown8
          have hkf := hke.trans (hbe.mono hke.size)
          have hrow7 := hrow7.keep hbe
          refine hK.out _ _ ?_ (fun hHeld => ?_)
          · exact HSA.out _ hkf
          clear hK K
          (try simp only [Act.put, List.setIfInBounds_toArray, List.set_cons_zero, List.set_cons_succ])
          refine wpAnyH_ready (rs := [4]) (by kernel_rfl) (by simp) ?_
          refine AllReadyH.cons (o := ⟨some 31, _, _, _, _, _⟩) rfl (fun K hK => ?_) AllReadyH.nil
          rw [if_pos (by kernel_rfl)]
          go_simp
          go_at_call 11; refine (HMO.out g7 g8 c7 c8 hc7 hc8 _ hrow7 (HRC.out _ _ hrow8)).mono ?_; rintro e wf ⟨rfl, hbf⟩
          have hkg := hkf.trans (hbf.mono hkf.size)
          refine hK.out _ _ ?_ (fun hHeld => ?_)
          · exact HSA.out _ hkg
          clear hK K
          (try simp only [Act.put, List.setIfInBounds_toArray, List.set_cons_zero, List.set_cons_succ])
          refine wpAnyH_take (i := 7) (oi := ⟨some 34, _, _, _, _, _⟩) (v := ?_) rfl (by kernel_rfl) (by kernel_rfl) (by kernel_rfl) (fun _ _ _ h => h) (Or.inl ⟨by kernel_rfl, ?_⟩) (by assumption) ?_
          rotate_left
          · (intro w hSw; (try dsimp only at hSw); go_simp; try with_reducible rfl)
          (try simp only [Act.put, List.setIfInBounds_toArray, List.set_cons_zero, List.set_cons_succ])
          refine wpAnyH_done (by kernel_rfl) ?_ _
          have HEND := Lib.hid (HB2.out.trans (hkg.mono HB2.out.size))
          clear hHeld hkd6 hke hkf hkg hbd hbe hbf hrow7 hrow8 hown7 hown8
          go_wp2_with fail
          go_ret
          exact ⟨12, rfl, .inr (.inr (.inl ⟨HGO.out, HFR.out, by rw [HCN.out, HSN.out]; omega, by rw [HM.out]; show M < s.toNat; omega, rfl⟩)), HEND.out⟩
        · have hd2 : decide ((M : Int) < s) = false := decide_eq_false hlt
          refine wp_region_held_drew (S := fun w' => w'.cell? ⟨P, 0, none⟩ = some (.int .i64 f) ∧ w'.cell? ⟨P, 1, none⟩ = some (.int .u32 m) ∧ w'.cell? ⟨P, 2, none⟩ = some (v) ∧ w'.cell? ⟨Q, 0, none⟩ = some (.int .i64 u) ∧ w'.cell? ⟨Q, 1, none⟩ = some (.int .i64 s)) (by kernel_rfl) ?_ (fun hHeld => ?_)
          · exact HSA.out _ hkd6
          refine wpAnyH_take (i := 0) (oi := ⟨some 27, _, _, _, _, _⟩) (v := ?_) rfl (by kernel_rfl) (by kernel_rfl) (by kernel_rfl) (fun _ _ _ h => h) (Or.inl ⟨by kernel_rfl, ?_⟩) (by assumption) ?_
          rotate_left
          · (intro w hSw; (try dsimp only at hSw); go_simp; try with_reducible rfl)
          (try simp only [Act.put, List.setIfInBounds_toArray, List.set_cons_zero, List.set_cons_succ])
          refine wpAnyH_take (i := 2) (oi := ⟨some 29, _, _, _, _, _⟩) (v := ?_) rfl (by kernel_rfl) (by kernel_rfl) (by kernel_rfl) (fun _ _ _ h => h) (Or.inl ⟨by kernel_rfl, ?_⟩) (by assumption) ?_
          rotate_left
          · (intro w hSw; (try dsimp only at hSw); go_simp; try with_reducible rfl)
          (try simp only [Act.put, List.setIfInBounds_toArray, List.set_cons_zero, List.set_cons_succ])
          refine wpAnyH_take (i := 5) (oi := ⟨some 32, _, _, _, _, _⟩) (v := ?_) rfl (by kernel_rfl) (by kernel_rfl) (by kernel_rfl) (fun _ _ _ h => h) (Or.inl ⟨by kernel_rfl, ?_⟩) (by assumption) ?_
          rotate_left
          · (intro w hSw; (try dsimp only at hSw); go_simp; try with_reducible rfl)
          (try simp only [Act.put, List.setIfInBounds_toArray, List.set_cons_zero, List.set_cons_succ])
          refine wpAnyH_take (i := 6) (oi := ⟨some 33, _, _, _, _, _⟩) (v := ?_) rfl (by kernel_rfl) (by kernel_rfl) (by kernel_rfl) (fun _ _ _ h => h) (Or.inl ⟨by kernel_rfl, ?_⟩) (by assumption) ?_
          rotate_left
          · (intro w hSw; (try dsimp only at hSw); go_simp; try with_reducible rfl)
          (try simp only [Act.put, List.setIfInBounds_toArray, List.set_cons_zero, List.set_cons_succ])
          refine wpAnyH_ready (rs := [1]) (by kernel_rfl) (by simp) ?_
          refine AllReadyH.cons (o := ⟨some 28, _, _, _, _, _⟩) rfl (fun K hK => ?_) AllReadyH.nil
          rw [if_pos (by kernel_rfl)]
          go_simp
          go_at_call 12; refine (HGA.out _ (HPL.out _ hkd6)).mono ?_; rintro e wd ⟨v7, rfl, hown7, hbd⟩
          obtain ⟨g7, c7, rfl, _, hc7, hrow7⟩ := rowU_of_own hown7
          have hke := hkd6.trans (hbd.mono hkd6.size)
          refine hK.out _ _ ?_ (fun hHeld => ?_)
          · exact HSA.out _ hke
          clear hK K
          (try simp only [Act.put, List.setIfInBounds_toArray, List.set_cons_zero, List.set_cons_succ])
          refine wpAnyH_ready (rs := [3]) (by kernel_rfl) (by simp) ?_
          refine AllReadyH.cons (o := ⟨some 30, _, _, _, _, _⟩) rfl (fun K hK => ?_) AllReadyH.nil
          rw [if_pos (by kernel_rfl)]
          go_simp
          go_at_call 13; refine (HRO.out _ (HPL.out _ hke)).mono ?_; rintro e we ⟨v8, rfl, hown8, hbe⟩
          obtain ⟨g8, c8, rfl, _, hc8, hrow8⟩ := rowC_of_own16 hown8
          have hkf := hke.trans (hbe.mono hke.size)
          have hrow7 := hrow7.keep hbe
          refine hK.out _ _ ?_ (fun hHeld => ?_)
          · exact HSA.out _ hkf
          clear hK K
          (try simp only [Act.put, List.setIfInBounds_toArray, List.set_cons_zero, List.set_cons_succ])
          refine wpAnyH_ready (rs := [4]) (by kernel_rfl) (by simp) ?_
          refine AllReadyH.cons (o := ⟨some 31, _, _, _, _, _⟩) rfl (fun K hK => ?_) AllReadyH.nil
          rw [if_pos (by kernel_rfl)]
          go_simp
          go_at_call 11; refine (HMO.out g7 g8 c7 c8 hc7 hc8 _ hrow7 (HRC.out _ _ hrow8)).mono ?_; rintro e wf ⟨rfl, hbf⟩
          have hkg := hkf.trans (hbf.mono hkf.size)
          refine hK.out _ _ ?_ (fun hHeld => ?_)
          · exact HSA.out _ hkg
          clear hK K
          (try simp only [Act.put, List.setIfInBounds_toArray, List.set_cons_zero, List.set_cons_succ])
          refine wpAnyH_take (i := 7) (oi := ⟨some 34, _, _, _, _, _⟩) (v := ?_) rfl (by kernel_rfl) (by kernel_rfl) (by kernel_rfl) (fun _ _ _ h => h) (Or.inl ⟨by kernel_rfl, ?_⟩) (by assumption) ?_
          rotate_left
          · (intro w hSw; (try dsimp only at hSw); go_simp; try with_reducible rfl)
          (try simp only [Act.put, List.setIfInBounds_toArray, List.set_cons_zero, List.set_cons_succ])
          refine wpAnyH_done (by kernel_rfl) ?_ _
          have HEND := Lib.hid (HB2.out.trans (hkg.mono HB2.out.size))
          clear hHeld hkd6 hke hkf hkg hbd hbe hbf hrow7 hrow8 hown7 hown8
          go_wp2_with fail
          go_ret
          exact ⟨0, rfl, .inr (.inr (.inr ⟨⟨HGO.out, HFR.out, by rw [HCN.out, HSN.out]; omega, by rw [HM.out]; show s.toNat ≤ M; omega⟩, rfl⟩)), HEND.out⟩
  · have hb0 : (E != 0) = true := by simpa using hE
    have HEND := Lib.hid (HB2.out.trans (HK3.out.mono HB2.out.size))
    have HNE := Lib.hid hE
    clear hE
    go_wp2_with fail
    go_ret
    exact ⟨E, rfl, .inl ⟨HNE.out, HWH.out⟩, HEND.out⟩
end Go.Proofs.Ytkgkanmccaodfaa
