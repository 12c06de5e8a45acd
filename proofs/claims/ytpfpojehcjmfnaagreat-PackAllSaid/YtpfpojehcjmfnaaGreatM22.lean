/-
  The law of plans that are made anew: PackAgain.
  Conditions: the slices read as places; the numbers are of their kinds.
-/
import Derived.Test.YtpfpojehcjmfnaaGreatM01
import Derived.Test.YtpfpojehcjmfnaaGreatM21
import Derived.Test.YtpfpojehcjmfnaaGreatM03
import Derived.Test.YtpfpojehcjmfnaaGreatM17

/-
  An argument that is a slice of wants, of whatever length; its first ones.
  Conditions: none.
-/
set_option linter.unusedVariables false
namespace Go.Proofs.YtpfpojehcjmfnaaGreat
open Go.RowKit

/-- An argument: it may be of any length. -/
def ArgAt (W : World) (v : Value) (ps : List Sp) : Prop :=
  ∃ A c, v = .slice A ps.length c ∧ ps.length ≤ c ∧ c ≤ 9223372036854775807 ∧ (A = none → c = 0) ∧
    (0 < ps.length → ∃ b off, A = some ⟨b, off, none⟩ ∧ b < W.heap.size ∧ ∀ (j : Nat) (p : Sp), ps[j]? = some p → PairAt W b (off + j * 2) p)
/-- Its first ones. -/
theorem ArgAt.cut {W : World} {A : Option Addr} {n c : Nat} {ps : List Sp} (h : ArgAt W (.slice A n c) ps) (N : Nat) (hN : N ≤ 2000000) : SpansAt W (.slice A (min n N) c) (ps.take N) := by
  obtain ⟨A', c', h1, h2, h3, h4, h5⟩ := h
  injection h1 with e1 e2 e3
  subst e1 e2 e3
  have hl : (ps.take N).length = min ps.length N := by rw [List.length_take, Nat.min_comm]
  have hmin : min ps.length N ≤ ps.length := Nat.min_le_left _ _
  have hmin2 : min ps.length N ≤ N := Nat.min_le_right _ _
  refine ⟨A, c, by rw [hl], by omega, by omega, h3, fun hn => ?_⟩
  obtain ⟨b, off, e, hlt, hc⟩ := h5 (by omega)
  refine ⟨b, off, e, hlt, fun j p hj => hc j p ?_⟩
  rw [List.getElem?_take] at hj
  split at hj
  · exact hj
  · cases hj
end Go.Proofs.YtpfpojehcjmfnaaGreat

/-
  Again, by contract.
  Conditions: the slice reads as places; the numbers are of their kinds.
-/
set_option linter.unusedVariables false
set_option linter.unusedSimpArgs false
namespace Go.Proofs.YtpfpojehcjmfnaaGreat
open Go.RowKit

set_option maxRecDepth 100000 in
set_option maxHeartbeats 8000000 in
theorem pkAgain_any (f : Int) (m : Nat) (v : Value) (l : List Pl) (w : World) (h : PlsAt w v l) (hL : LightL l) (hm : m < 4294967296) :
    Calls Tryz.prog 25 #[planA f m v] w (RetAgain f m l w) := by
  have mixed : Tryz.prog.follows .mixedOrders = true := by kernel_rfl
  obtain ⟨A, cA, rfl, hlc, hcm⟩ := h.form
  obtain ⟨nl, hnl⟩ : ∃ nl, l.length = nl := ⟨_, rfl⟩
  rw [hnl] at h hlc ⊢
  obtain ⟨w1, P, hw1, hP, hPl, hb1, hbox⟩ := box_any w #[.int .i64 f, .int .u32 m, .slice A nl cA] 26
  obtain ⟨w2, R, hw2, hR, hRl, hb2, hrox⟩ := box_any w1 #[.int .i64 0, .int .u32 0, .slice none 0 0] 26
  have HB2 := Lib.hid (hb1.trans (hb2.mono hb1.size))
  have HPB := Lib.hid (keep_block hbox hb2)
  have HRB := Lib.hid hrox
  have HRL : Hid (w.heap.size ≤ R ∧ P ≠ R) := Lib.hid (by have := hb1.size; omega)
  have HH : Hid (∀ W, Below w2.heap.size w2 W → PlsAt W (.slice A nl cA) l) := Lib.hid (fun W hk => h.keep (HB2.out.trans (hk.mono HB2.out.size)))
  have HSA : Hid (∀ W, Below w2.heap.size w2 W → W.cell? ⟨P, 0, none⟩ = some (.int .i64 f) ∧ W.cell? ⟨P, 1, none⟩ = some (.int .u32 m) ∧ W.cell? ⟨P, 2, none⟩ = some (.slice A nl cA)) := Lib.hid (fun W hk => three_heads (keep_block HPB.out hk))
  have HSR : Hid (∀ (W : World), Below w2.heap.size w2 W → ∀ cs, (W.setRow R cs).cell? ⟨P, 0, none⟩ = some (.int .i64 f) ∧ (W.setRow R cs).cell? ⟨P, 1, none⟩ = some (.int .u32 m) ∧ (W.setRow R cs).cell? ⟨P, 2, none⟩ = some (.slice A nl cA)) := Lib.hid (fun W hk cs => three_heads ((setRow_other _ _ _ _ HRL.out.2).trans (keep_block HPB.out hk)))
  have HPC := Lib.hid (planCheck_any f m (.slice A nl cA) l w2 (HH.out w2 (Below.refl _ _)) hL.wide hm)
  have HWA := Lib.hid (fun W hk => wants_any f m (.slice A nl cA) l W (HH.out W hk) (by have := hL.len; omega))
  have HWI := Lib.hid (wants_int (l := l) fun x hx => (hL.ok x hx).1)
  have HL3 : Hid ((wantsT l).length ≤ 300) := Lib.hid (by rw [wantsT_length]; exact hL.len)
  have HMM := Lib.hid hm
  obtain ⟨r0, r1, r2⟩ := HSA.out w2 (Below.refl _ _)
  unfold planA at HPC HWA ⊢
  clear h hL hm hnl hb1 hb2 hbox hrox
  go_enter Tryz.func25, Tryz.ntmps25
  go_wp2_with fail
  refine HPC.out.mono ?_
  rintro e w3 ⟨E, rfl, hE, hEr, hb3⟩
  have HK3 := Lib.hid hb3
  clear hb3 r0 r1 r2 hw1 hw2 hP hR
  rcases hE with rfl | rfl
  · have HRT := Lib.hid (hEr.1 rfl)
    have HAGN := Lib.hid HRT.out.again
    have hkd := HK3.out.drew
    clear hEr
    go_wp2_with fail
    refine wp_region_held_drew (S := fun w' => w'.cell? ⟨P, 0, none⟩ = some (.int .i64 f) ∧ w'.cell? ⟨P, 1, none⟩ = some (.int .u32 m) ∧ w'.cell? ⟨P, 2, none⟩ = some (.slice A nl cA)) (by kernel_rfl) ?_ (fun hHeld => ?_)
    · exact HSA.out _ hkd
    refine wpAnyH_take (i := 0) (oi := ⟨some 11, _, _, _, _, _⟩) (v := ?_) rfl (by kernel_rfl) (by kernel_rfl) (by kernel_rfl) (fun _ _ _ h => h) (Or.inl ⟨by kernel_rfl, ?_⟩) (by assumption) ?_
    rotate_left
    · (intro w hSw; (try dsimp only at hSw); go_simp; try with_reducible rfl)
    (try simp only [Act.put, List.setIfInBounds_toArray, List.set_cons_zero, List.set_cons_succ])
    refine wpAnyH_take (i := 1) (oi := ⟨some 12, _, _, _, _, _⟩) (v := ?_) rfl (by kernel_rfl) (by kernel_rfl) (by kernel_rfl) (fun _ _ _ h => h) (Or.inl ⟨by kernel_rfl, ?_⟩) (by assumption) ?_
    rotate_left
    · (intro w hSw; (try dsimp only at hSw); go_simp; try with_reducible rfl)
    (try simp only [Act.put, List.setIfInBounds_toArray, List.set_cons_zero, List.set_cons_succ])
    refine wpAnyH_take (i := 2) (oi := ⟨some 13, _, _, _, _, _⟩) (v := ?_) rfl (by kernel_rfl) (by kernel_rfl) (by kernel_rfl) (fun _ _ _ h => h) (Or.inl ⟨by kernel_rfl, ?_⟩) (by assumption) ?_
    rotate_left
    · (intro w hSw; (try dsimp only at hSw); go_simp; try with_reducible rfl)
    (try simp only [Act.put, List.setIfInBounds_toArray, List.set_cons_zero, List.set_cons_succ])
    refine wpAnyH_take (i := 3) (oi := ⟨some 14, _, _, _, _, _⟩) (v := ?_) rfl (by kernel_rfl) (by kernel_rfl) (by kernel_rfl) (fun _ _ _ h => h) (Or.inl ⟨by kernel_rfl, ?_⟩) (by assumption) ?_
    rotate_left
    · (intro w hSw; (try dsimp only at hSw); go_simp; try with_reducible rfl)
    (try simp only [Act.put, List.setIfInBounds_toArray, List.set_cons_zero, List.set_cons_succ])
    refine wpAnyH_take (i := 4) (oi := ⟨some 15, _, _, _, _, _⟩) (v := ?_) rfl (by kernel_rfl) (by kernel_rfl) (by kernel_rfl) (fun _ _ _ h => h) (Or.inl ⟨by kernel_rfl, ?_⟩) (by assumption) ?_
    rotate_left
    · (intro w hSw; (try dsimp only at hSw); go_simp; try with_reducible rfl)
    (try simp only [Act.put, List.setIfInBounds_toArray, List.set_cons_zero, List.set_cons_succ])
    refine wpAnyH_ready (rs := [5]) (by kernel_rfl) (by simp) ?_
    refine AllReadyH.cons (o := ⟨some 16, _, _, _, _, _⟩) rfl (fun K hK => ?_) AllReadyH.nil
    rw [if_pos (by kernel_rfl)]
    go_simp
    go_at_call 53; refine (HWA.out _ hkd).mono ?_; rintro e wb ⟨vw, rfl, hvw, hbb⟩
    have hkb := hkd.trans (hbb.mono hkd.size)
    refine hK.out _ _ ?_ (fun hHeld => ?_)
    · exact HSA.out _ hkb
    clear hK K
    (try simp only [Act.put, List.setIfInBounds_toArray, List.set_cons_zero, List.set_cons_succ])
    refine wpAnyH_ready (rs := [6]) (by kernel_rfl) (by simp) ?_
    refine AllReadyH.cons (o := ⟨some 17, _, _, _, _, _⟩) rfl (fun K hK => ?_) AllReadyH.nil
    rw [if_pos (by kernel_rfl)]
    go_simp
    go_at_call 8; refine (full_any f m vw (wantsT l) _ hvw HWI.out HMM.out HL3.out).mono ?_; rintro e wc ⟨E, hwhy, hbc, hcase⟩
    have hE0 : E = 0 := hwhy.unique HAGN.out.why
    obtain ⟨_, v5, rfl, hpl5⟩ := hcase.resolve_right fun h => h.1 hE0
    obtain ⟨A5, c5, hv5, _, _⟩ := hpl5.form
    obtain ⟨n5, hn5⟩ : ∃ n5, (fullT f m (wantsT l)).length = n5 := ⟨_, rfl⟩
    rw [hn5] at hv5
    subst hv5
    unfold planA
    have hkc := hkb.trans (hbc.mono hkb.size)
    refine hK.out _ _ ?_ (fun hHeld => ?_)
    · exact HSA.out _ hkc
    clear hK K
    (try simp only [Act.put, List.setIfInBounds_toArray, List.set_cons_zero, List.set_cons_succ])
    have HPL5 := Lib.hid hpl5
    have HKC := Lib.hid hkc
    have HR5 := Lib.hid (keep_block HRB.out hkc)
    refine wpAnyH_take (i := 7) (oi := ⟨some 18, _, _, _, _, _⟩) (v := ?_) rfl (by kernel_rfl) (by kernel_rfl) (by kernel_rfl) (fun _ _ _ h => h) (Or.inl ⟨by kernel_rfl, ?_⟩) (by assumption) ?_
    rotate_left
    · (intro w hSw; (try dsimp only at hSw); go_simp; try with_reducible rfl)
    (try simp only [Act.put, List.setIfInBounds_toArray, List.set_cons_zero, List.set_cons_succ])
    refine wpAnyH_take (i := 8) (oi := ⟨some 19, _, _, _, _, _⟩) (v := ?_) rfl (by kernel_rfl) (by kernel_rfl) (by kernel_rfl) (fun _ _ _ h => h) (Or.inl ⟨by kernel_rfl, ?_⟩) (by assumption) ?_
    rotate_left
    · (intro w hSw; (try dsimp only at hSw); go_simp; try with_reducible rfl)
    (try simp only [Act.put, List.setIfInBounds_toArray, List.set_cons_zero, List.set_cons_succ])
    refine wpAnyH_ready (rs := [9]) (by kernel_rfl) (by simp) ?_
    refine AllReadyH.cons (o := ⟨none, _, _, _, _, _⟩) rfl (fun K hK => ?_) AllReadyH.nil
    refine step_store_row16 rfl _ _ _ rfl R #[.int .i64 f, .int .u32 m, .slice A5 n5 c5] (by simp [Act.eval, Act.put]) (by simp [Act.eval, Act.put]) 26 _ HR5.out (Tryz.sizePn _ _ _) rfl (one3 _ _ _ _ _) ?_
    refine hK.out _ _ ?_ (fun hHeld => ?_)
    · exact HSR.out wc HKC.out _
    clear hK K
    (try simp only [Act.put, List.setIfInBounds_toArray, List.set_cons_zero, List.set_cons_succ])
    refine wpAnyH_take (i := 10) (oi := ⟨some 3, _, _, _, _, _⟩) (v := ?_) rfl (by kernel_rfl) (by kernel_rfl) (by kernel_rfl) (fun _ _ _ h => h) (Or.inl ⟨by kernel_rfl, ?_⟩) (by assumption) ?_
    rotate_left
    · (intro w hSw; (try dsimp only at hSw); go_simp; try with_reducible rfl)
    (try simp only [Act.put, List.setIfInBounds_toArray, List.set_cons_zero, List.set_cons_succ])
    refine wpAnyH_done (by kernel_rfl) ?_ _
    have HEND : Hid (PlsAt (wc.setRow R #[.int .i64 f, .int .u32 m, .slice A5 n5 c5]) (.slice A5 n5 c5) (fullT f m (wantsT l)) ∧ Below w.heap.size w (wc.setRow R #[.int .i64 f, .int .u32 m, .slice A5 n5 c5])) := Lib.hid ⟨(PlsIn.setRow (pls_not HR5.out HPL5.out) (.inl fun h => h.2 rfl)).any, below_row (HB2.out.trans (HKC.out.mono HB2.out.size)) HRL.out.1 _⟩
    clear hHeld hkc hkb hkd hbc hbb hvw hpl5 hn5 hwhy hcase hE0
    go_wp2_with fail
    refine bodyPost_ret (v := .tuple #[planA f m (.slice A5 n5 c5), .int .i64 0]) (results_row_tmp rfl _ _ R _ _ _ _ rfl (setRow_heap _ _ _ _ _ _ HR5.out) Tryz.underlying26 rfl (Tryz.sizePn _ _ _) _ rfl) rfl ?_
    exact ⟨HEND.out.2, .inl ⟨HRT.out, _, rfl, HEND.out.1⟩⟩
  · have HNO : Hid (¬ Right f m l) := Lib.hid (fun h => absurd (hEr.2 h) (by decide))
    have HR3 := Lib.hid (keep_block HRB.out HK3.out)
    have HEND := Lib.hid (below_row (HB2.out.trans (HK3.out.mono HB2.out.size)) HRL.out.1 #[.int .i64 0, .int .u32 0, .slice none 0 0])
    clear hEr
    go_wp2_with (refine wpList_store_row rfl _ _ _ rfl R #[.int .i64 0, .int .u32 0, .slice none 0 0] rfl rfl 26 _ HR3.out (Tryz.sizePn _ _ _) rfl (one3 _ _ _ _ _) ?_)
    refine bodyPost_ret (v := .tuple #[planA 0 0 (.slice none 0 0), .int .i64 30]) (results_row_tmp rfl _ _ R _ _ _ _ rfl (setRow_heap _ _ _ _ _ _ HR3.out) Tryz.underlying26 rfl (Tryz.sizePn _ _ _) _ rfl) rfl ?_
    exact ⟨HEND.out, .inr ⟨HNO.out, rfl⟩⟩
end Go.Proofs.YtpfpojehcjmfnaaGreat

/-
  Has a plan not too much?
  Conditions: the slice reads as places.
-/
set_option linter.unusedVariables false
namespace Go.Proofs.YtpfpojehcjmfnaaGreat
open Go.RowKit

/-- What Light tells. -/
def Lit (l : List Pl) : Prop := (∀ (k : Nat) (x : Pl), k < 300 → l[k]? = some x → x.ps.length ≤ 20) ∧ l.length ≤ 60
theorem Lit.light {l : List Pl} (h : Lit l) (ho : ∀ x ∈ l, PlOk x) : LightL l :=
  ⟨by have := h.2; omega, fun x hx => ⟨ho x hx, by
    obtain ⟨k, hk⟩ := List.mem_iff_getElem?.1 hx
    have h1 := (List.getElem?_eq_some_iff.1 hk).1
    have h2 := h.2
    have := h.1 k x (by omega) hk
    omega⟩⟩

set_option maxRecDepth 100000 in
set_option maxHeartbeats 2000000 in
theorem light_any (f : Int) (m : Nat) (v : Value) (l : List Pl) (w : World) (h : PlsAt w v l) :
    Calls Tryz.prog 24 #[planA f m v] w (RetIff (Lit l) w) := by
  obtain ⟨A, cA, rfl, hlc, hcm⟩ := h.form
  have HL := Lib.hid h
  obtain ⟨w1, P, hw1, hP, hPl, hb1, hbox⟩ := box_any w #[.int .i64 f, .int .u32 m, .slice A l.length cA] 26
  obtain ⟨n, hn⟩ : ∃ n, l.length = n := ⟨_, rfl⟩
  rw [hn] at HL hlc hw1 hbox ⊢
  have HN := Lib.hid hn
  have HB1 := Lib.hid hb1
  have HBOX := Lib.hid hbox
  obtain ⟨r0, r1, r2⟩ := three_heads hbox
  clear h hn hb1 hbox
  unfold planA
  go_enter Tryz.func24, Tryz.ntmps24
  go_wp2_with fail
  clear hw1 hP r0 r1 r2
  go_loopg [3] n (fun gg s3 wr => ∃ k : Nat, k ≤ n ∧ gg = n - k ∧ s3 = .int .i64 k ∧ Hid (∀ (i : Nat) (x : Pl), i < k → l[i]? = some x → x.ps.length ≤ 20) ∧ k ≤ 300 ∧ Below w1.heap.size w1 wr)
  case atStart => exact ⟨0, Nat.zero_le _, by omega, rfl, fun i x hi => absurd hi (by omega), by omega, Below.refl _ w1⟩
  case round =>
    obtain ⟨k, hk, hg, rfl, HA, hk3, hbw⟩ := hrel
    have HBW := Lib.hid hbw
    have HB := Lib.hid (HB1.out.trans (hbw.mono HB1.out.size))
    have HG := Lib.hid hg
    have hPl2 : P < wr.heap.size := Nat.lt_of_lt_of_le hPl hbw.size
    have HBX := Lib.hid ((hbw.block P hPl).trans HBOX.out)
    obtain ⟨r0, r1, r2⟩ := three_heads HBX.out
    have HLR := Lib.hid (HL.out.keep HB.out)
    clear hbw hg
    by_cases hlt : k < n
    · by_cases hl3 : k < 300
      · have hl3z : (k : Int) < 300 := by omega
        have hk0 : (0 : Int) ≤ (k : Int) := by omega
        have hltz : (k : Int) < (n : Int) := by omega
        obtain ⟨x, hx⟩ := exP_at (xs := l) (k := k) (by rw [HN.out]; exact hlt)
        obtain ⟨b, off, B, d, hA, hbl, _, ⟨c0, c1, c2, c3⟩, hps⟩ := HLR.out.at_ hx
        subst hA
        simp only at c0 c1 c2 c3
        have HX := Lib.hid hx
        have HPS := Lib.hid hps
        clear hx hps
        by_cases hp : x.ps.length ≤ 20
        · have hpz : decide ((20 : Int) < (x.ps.length : Int)) = false := decide_eq_false (by omega)
          have HE : Hid (∀ (i : Nat) (z : Pl), i < k + 1 → l[i]? = some z → z.ps.length ≤ 20) := Lib.hid (fun i z hi hz => by
            rcases Nat.lt_succ_iff_lt_or_eq.1 hi with h | rfl
            · exact HA i z h hz
            · rw [HX.out] at hz
              cases hz
              exact hp)
          go_wp2_with fail
          go_roundg (n - (k + 1))
          case measure => have := HG.out; omega
          case rel => exact ⟨k + 1, by omega, rfl, by go_num, HE.out, by omega, HBW.out⟩
        · have hpz : (20 : Int) < (x.ps.length : Int) := by omega
          have HNO := Lib.hid (show ¬ Lit l from fun h => hp (h.1 k x hl3 HX.out))
          go_wp2_with fail
          go_ret
          exact RetIff.no HNO.out HB.out
      · have hltz : (k : Int) < (n : Int) := by omega
        have hl3z : ¬ (k : Int) < 300 := by omega
        have hnz : decide ((n : Int) ≤ 60) = false := decide_eq_false (by omega)
        have HNO := Lib.hid (show ¬ Lit l from fun h => by have := h.2; have := HN.out; omega)
        go_wp2_with fail
        go_ret
        exact RetIff.no HNO.out HB.out
    · have hltz : ¬ (k : Int) < (n : Int) := by omega
      by_cases hn6 : n ≤ 60
      · have hnz : (n : Int) ≤ 60 := by omega
        have HYE := Lib.hid (show Lit l from ⟨fun i x _ hx => HA i x (by have := (List.getElem?_eq_some_iff.1 hx).1; have := HN.out; omega) hx, by rw [HN.out]; exact hn6⟩)
        go_wp2_with fail
        go_ret
        exact RetIff.yes HYE.out HB.out
      · have hnz : decide ((n : Int) ≤ 60) = false := decide_eq_false (by omega)
        have HNO := Lib.hid (show ¬ Lit l from fun h => by have := h.2; have := HN.out; omega)
        go_wp2_with fail
        go_ret
        exact RetIff.no HNO.out HB.out
end Go.Proofs.YtpfpojehcjmfnaaGreat

/-
  Two slices that read alike.
  Conditions: the slices read as wants.
-/
set_option linter.unusedVariables false
namespace Go.Proofs.YtpfpojehcjmfnaaGreat
open Go.RowKit

set_option maxRecDepth 100000 in
set_option maxHeartbeats 2000000 in
theorem same_any (x y : Value) (ps : List Sp) (w : World) (hx : SpansAt w x ps) (hy : SpansAt w y ps) : Calls Tryz.prog 26 #[x, y] w (RetB (.bool true) w) := by
  obtain ⟨A1, k1, rfl, a1, a2, a3, a4⟩ := hx
  obtain ⟨A2, k2, rfl, b1, b2, b3, b4⟩ := hy
  have HX := Lib.hid a4
  have HY := Lib.hid b4
  generalize hn : ps.length = n at *
  have HN := Lib.hid hn
  have hnn : ((n : Int) != (n : Int)) = false := by simp
  clear a4 b4 hn
  go_enter Tryz.func26, Tryz.ntmps26
  go_wp2_with fail
  go_loopg [5] n (fun g s wr => ∃ i : Nat, i ≤ n ∧ g = n - i ∧ s = .int .i64 i ∧ Below w.heap.size w wr)
  case atStart => exact ⟨0, Nat.zero_le _, by omega, rfl, Below.refl _ _⟩
  case round =>
    obtain ⟨i, hin, hgg, rfl, hbw⟩ := hrel
    have HG := Lib.hid hgg
    have HB := Lib.hid hbw
    clear hgg hbw
    by_cases hlt : i < n
    · obtain ⟨bx, ox, hA1, hl1, hc1⟩ := HX.out (by omega)
      obtain ⟨by_, oy, hA2, hl2, hc2⟩ := HY.out (by omega)
      subst hA1 hA2
      obtain ⟨z, hz⟩ := ex_at (xs := ps) (k := i) (by rw [HN.out]; exact hlt)
      obtain ⟨c1, c2⟩ := (hc1 i z hz).keep HB.out hl1
      obtain ⟨d1, d2⟩ := (hc2 i z hz).keep HB.out hl2
      obtain ⟨z1, z2⟩ := z
      simp only at c1 c2 d1 d2
      have e1 : (z1 != z1) = false := by simp
      have e2 : (z2 != z2) = false := by simp
      have hltz : (i : Int) < (n : Int) := by omega
      clear hc1 hc2 hz
      go_wp2_with fail
      go_quiet (fail)
      go_wp2_with fail
      go_roundg (n - (i + 1))
      case measure => have := HG.out; omega
      case rel => exact ⟨i + 1, by omega, rfl, by go_num, below_drewN HB.out _⟩
    · have hltz : ¬ (i : Int) < (n : Int) := by omega
      go_wp2
      go_ret
      exact ⟨rfl, HB.out⟩
end Go.Proofs.YtpfpojehcjmfnaaGreat

/-
  Wants of a plan, of the document.
  Conditions: the slice reads as places.
-/
set_option linter.unusedVariables false
set_option linter.unusedSimpArgs false
namespace Go.Proofs.YtpfpojehcjmfnaaGreat
open Go.RowKit Go.Sort

set_option maxRecDepth 100000 in
set_option maxHeartbeats 4000000 in
theorem refWants_any (f : Int) (m : Nat) (v : Value) (l : List Pl) (w : World) (h : PlsAt w v l) (hl : l.length ≤ 1000) :
    Calls Tryz.prog 27 #[planA f m v] w (RetS (wantsT l) w) := by
  obtain ⟨i0, hi, hz0, hz1, hz2⟩ := info_parts Tryz.infoSpan
  obtain ⟨A, cA, rfl, hlc, hcm⟩ := h.form
  have HL := Lib.hid h
  obtain ⟨w1, P, hw1, hP, hPl, hb1, hbox⟩ := box_any w #[.int .i64 f, .int .u32 m, .slice A l.length cA] 26
  obtain ⟨n, hn⟩ : ∃ n, l.length = n := ⟨_, rfl⟩
  rw [hn] at HL hlc hl hw1 hbox ⊢
  have HN := Lib.hid hn
  have HB1 := Lib.hid hb1
  have HBOX := Lib.hid hbox
  obtain ⟨r0, r1, r2⟩ := three_heads hbox
  clear h hn hb1 hbox
  unfold planA
  go_enter Tryz.func27, Tryz.ntmps27
  go_wp2_with fail
  clear hw1 hP r0 r1 r2
  have HB0 := Lib.hid (show Below w1.heap.size w1 (w1.alloc (Obj.cells #[] 52)) from (Below.refl _ _).alloc (Nat.le_refl _) _)
  have HO0 : Hid ((w1.alloc (Obj.cells #[] 52)).ownsRow w1.heap.size 52 2 (.slice (some ⟨w1.heap.size, 0, none⟩) 0 0) 0 []) :=
    ⟨rfl, .inr ⟨w1.heap.size, 0, #[], rfl, Nat.le_refl _, heap_alloc_new w1 _, Nat.le_refl _, Nat.zero_le _, rfl, rfl⟩⟩
  go_loopg [3, 4] n (fun gg s3 s4 wr => ∃ k : Nat, k ≤ n ∧ gg = n - k ∧ s4 = .int .i64 k ∧ Below w1.heap.size w1 wr ∧ wr.ownsRow w1.heap.size 52 2 s3 k (spansCells (wantsT (l.take k))))
  case atStart => exact ⟨0, Nat.zero_le _, by omega, rfl, HB0.out, HO0.out⟩
  case round =>
    obtain ⟨k, hk, hg, rfl, hbw, hown⟩ := hrel
    have HO := Lib.hid hown
    clear hown
    have HBW := Lib.hid hbw
    have HB := Lib.hid (HB1.out.trans (hbw.mono HB1.out.size))
    have HG := Lib.hid hg
    have hPl2 : P < wr.heap.size := Nat.lt_of_lt_of_le hPl hbw.size
    have HBX := Lib.hid ((hbw.block P hPl).trans HBOX.out)
    obtain ⟨r0, r1, r2⟩ := three_heads HBX.out
    have HLR := Lib.hid (HL.out.keep HB.out)
    clear hbw hg
    by_cases hlt : k < n
    · have hk0 : (0 : Int) ≤ (k : Int) := by omega
      have hltz : (k : Int) < (n : Int) := by omega
      obtain ⟨x, hx⟩ := exP_at (xs := l) (k := k) (by rw [HN.out]; exact hlt)
      obtain ⟨b, off, B, d, hA, hbl, _, ⟨c0, c1, c2, c3⟩, hps⟩ := HLR.out.at_ hx
      subst hA
      simp only at c0 c1 c2 c3
      have HX := Lib.hid hx
      have HPS := Lib.hid hps
      clear hx hps
      have HT := Lib.hid (wants_snoc HX.out)
      obtain ⟨A0, k0, rfl⟩ := own_form HO.out
      have hsz := HBW.out.size
      have ak : (Value.slice A0 k k0).ownBlock ≠ some P := fun e => by have := own_base5 HO.out _ e; omega
      have akb : (Value.slice A0 k k0).ownBlock ≠ some b := fun e => by
        have h1 := own_base5 HO.out _ e
        obtain ⟨b', off', _, _, hA', hbl', _⟩ := HL.out.at_ HX.out
        injection hA' with hA'
        injection hA' with hA'
        have := HB1.out.size
        omega
      obtain ⟨xu, xs, xc, xp⟩ := x
      simp only at *
      go_wp2_with fail
      go_region_held3 (fun w' => w'.cell? ⟨P, 2, none⟩ = some (.slice (some ⟨b, off, none⟩) n cA) ∧ w'.cell? ⟨b, off + k * 4, none⟩ = some (.int .i64 xu) ∧ w'.cell? ⟨b, off + k * 4 + 1, none⟩ = some (.int .i64 xs))
        (first
          | go_keep
          | (go_split_ands
             refine ⟨?_, ?_, ?_⟩
             · (rw [hgrow.cell_far _ (by simp; omega) (Ne.symm ak)]; assumption)
             · (rw [hgrow.cell_far _ (by simp; omega) (Ne.symm akb)]; assumption)
             · (rw [hgrow.cell_far _ (by simp; omega) (Ne.symm akb)]; assumption)))
        ((refine step_append_lies _ (by rfl) _ _ _ (by rfl) w1.heap.size 52 i0 _ 2 16 Tryz.underlying23 hi hz0 hz1 hz2 rfl (by omega) (Value.slice A0 k k0) k (spansCells (wantsT (l.take k))) (by rfl) ((own_draw HO.out 1).alloc _)
            ⟨wr.heap.size, 0, none⟩ 1 1 [.int .i64 xu, .int .i64 xs] (by rfl) (by rfl) (news_two _ _ (by simp) _ _ _) (by simp [Value.oneCell'])
            (by omega) (by unfold maxLen; omega) (by omega) (by simp; omega) (wr.heap.size + 1) (by simp) ?_; intro gg cap3 w3 hown3 hgrow hat hlt3))
      all_goals
        have HB3 := Lib.hid ((HBW.out.alloc hsz (Obj.cells #[Value.int .i64 xu, Value.int .i64 xs] 52)).drew.trans (below_grown5 hgrow (by simp; omega) (own_base5 HO.out)))
        have HO3 := Lib.hid hown3
        clear hown3 hgrow hat
        go_wp2
        go_roundg (n - (k + 1))
        case measure => have := HG.out; omega
        case rel =>
          refine ⟨k + 1, by omega, rfl, by go_num, HB3.out, ?_⟩
          rw [HT.out, spansCells_snoc]
          exact HO3.out
    · have hltz : ¬ (k : Int) < (n : Int) := by omega
      have HE := Lib.hid (show l.take k = l from List.take_of_length_le (by rw [HN.out]; omega))
      have HF := Lib.hid (show SpansAt wr u3 (wantsT l) by
        have h := HO.out
        rw [HE.out] at h
        exact spans_of_own (base := w1.heap.size) (e := 52) (by rw [wantsT_length, HN.out]; rwa [show k = n by omega] at h) (by rw [wantsT_length, HN.out]; omega))
      go_wp2
      go_ret
      exact ⟨_, rfl, HF.out, HB.out⟩
end Go.Proofs.YtpfpojehcjmfnaaGreat

/-
  The law of plans that are made anew: PackAgain.
  Conditions: the slices read as places; the numbers are of their kinds.
-/
set_option linter.unusedVariables false
set_option linter.unusedSimpArgs false
namespace Go.Proofs.YtpfpojehcjmfnaaGreat
open Go.RowKit

set_option maxRecDepth 100000 in
set_option maxHeartbeats 8000000 in
theorem again_law (f : Int) (m : Nat) (v : Value) (l : List Pl) (w : World) (h : PlsAt w v l) (ho : ∀ x ∈ l, PlOk x) (hm : m < 4294967296) :
    Calls Tryz.prog 5 #[planA f m v] w (RetB (.bool true) w) := by
  have mixed : Tryz.prog.follows .mixedOrders = true := by kernel_rfl
  have HAW := Lib.hid (fun W => awake_any W)
  obtain ⟨A, cA, rfl, hlc, hcm⟩ := h.form
  obtain ⟨nl, hnl⟩ : ∃ nl, l.length = nl := ⟨_, rfl⟩
  rw [hnl] at h hlc ⊢
  obtain ⟨w1, P, hw1, hP, hPl, hb1, hbox⟩ := box_any w #[.int .i64 f, .int .u32 m, .slice A nl cA] 26
  have HB1 := Lib.hid hb1
  have HBOX := Lib.hid hbox
  have HH : Hid (∀ W, Below w1.heap.size w1 W → PlsAt W (.slice A nl cA) l) := Lib.hid (fun W hk => h.keep (HB1.out.trans (hk.mono HB1.out.size)))
  have HLI := Lib.hid (fun W (hk : Below w1.heap.size w1 W) => calls_iff (light_any f m (.slice A nl cA) l W (HH.out W hk)))
  have HPC : Hid (∀ W, Below w1.heap.size w1 W → W.cell? ⟨P, 0, none⟩ = some (.int .i64 f) ∧ W.cell? ⟨P, 1, none⟩ = some (.int .u32 m) ∧ W.cell? ⟨P, 2, none⟩ = some (.slice A nl cA)) := Lib.hid (fun W hk => three_heads (keep_block HBOX.out hk))
  have HK1 := Lib.hid (Below.refl w1.heap.size w1)
  have HNL := Lib.hid hnl
  obtain ⟨r0, r1, r2⟩ := HPC.out _ HK1.out
  unfold planA at HLI ⊢
  clear h hb1 hbox hnl
  by_cases hlit : Lit l
  · have hL := hlit.light ho
    have HLY := Lib.hid (fun W hk => (HLI.out W hk).1 hlit)
    have HL60 : Hid (l.length ≤ 60) := Lib.hid hlit.2
    have HAG := Lib.hid (fun W hk => pkAgain_any f m (.slice A nl cA) l W (HH.out W hk) hL hm)
    have HRI := Lib.hid (fun W hk => calls_iff (right_any f m (.slice A nl cA) l W (HH.out W hk) hL hm))
    have HWP := Lib.hid (fun W hk => refWants_any f m (.slice A nl cA) l W (HH.out W hk) (by have := hL.len; omega))
    have HMM := Lib.hid hm
    unfold planA at HAG HRI HWP
    clear HLI hlit hL ho hm
    go_enter Tryz.func5, Tryz.ntmps5
    go_wp2_with fail
    refine (HLY.out _ HK1.out).mono ?_
    rintro e w2 ⟨rfl, hb2⟩
    have HK2 := Lib.hid hb2
    clear hb2 r0 r1 r2 hw1 hP
    obtain ⟨r0, r1, r2⟩ := HPC.out _ HK2.out
    go_wp2_with fail
    refine (HAG.out _ HK2.out).mono ?_
    rintro e w3 ⟨hb3, hcase⟩
    have HK3 := Lib.hid (HK2.out.trans (hb3.mono HK2.out.size))
    clear r0 r1 r2
    rcases hcase with ⟨hR0, v3, rfl, hpl⟩ | ⟨hR0, rfl⟩
    · have hok := hR0.again
      have his := hok.is
      have HW2 : Hid (wantsT (fullT f m (wantsT l)) = wantsT l) := Lib.hid hR0.wants
      have HT2 : Hid (fullT f m (wantsT (fullT f m (wantsT l))) = fullT f m (wantsT l)) := Lib.hid hR0.twice
      generalize fullT f m (wantsT l) = Lq at *
      have hlen := his.len
      rw [wantsT_length] at hlen
      have hLq : LightL Lq := ⟨by have := HL60.out; omega, his.ok⟩
      have hR := his.right
      obtain ⟨A3, d3, hv3, _, _⟩ := hpl.form
      obtain ⟨n3, hn3⟩ : ∃ n3, Lq.length = n3 := ⟨_, rfl⟩
      rw [hn3] at hv3
      subst hv3
      obtain ⟨w4, Q, hw4, hQ, hQl, hbw4, hQb⟩ := box_any w3 #[.int .i64 0, .int .u32 0, .slice none 0 0] 26
      have HQB := Lib.hid hQb
      obtain ⟨w5, hw5⟩ : ∃ w5, w4.setRow Q #[.int .i64 f, .int .u32 m, .slice A3 n3 d3] = w5 := ⟨_, rfl⟩
      have hbw5 : Below w3.heap.size w3 w5 := by rw [← hw5]; exact below_row hbw4 (by omega) _
      have HKw5 := Lib.hid (HK3.out.trans (hbw5.mono HK3.out.size))
      have HQC : Hid (∀ W, Below w5.heap.size w5 W → W.cell? ⟨Q, 0, none⟩ = some (.int .i64 f) ∧ W.cell? ⟨Q, 1, none⟩ = some (.int .u32 m) ∧ W.cell? ⟨Q, 2, none⟩ = some (.slice A3 n3 d3)) := Lib.hid (by
        have hq : w5.heap[Q]? = some (.cells #[.int .i64 f, .int .u32 m, .slice A3 n3 d3] 26 (0, 0)) := by rw [← hw5]; exact setRow_heap _ _ _ _ _ _ hQb
        exact fun W hk => three_heads (keep_block hq hk))
      have HPQ : Hid (∀ W, Below w5.heap.size w5 W → PlsAt W (.slice A3 n3 d3) Lq) := Lib.hid (fun W hk => (hpl.keep hbw5).keep hk)
      have HK50 := Lib.hid (Below.refl w5.heap.size w5)
      have HRI5 := Lib.hid (fun W hk => (HRI.out W hk).1 hR0)
      have HRQ0 := Lib.hid (fun W hk => (calls_iff (right_any f m (.slice A3 n3 d3) Lq W (HPQ.out W hk) hLq HMM.out)).1 hR)
      have HWQ0 := Lib.hid (fun W hk => refWants_any f m (.slice A3 n3 d3) Lq W (HPQ.out W hk) (by have := hLq.len; omega))
      have HAG2 := Lib.hid (fun W hk => pkAgain_any f m (.slice A3 n3 d3) Lq W (HPQ.out W hk) hLq HMM.out)
      have HRQ1 := Lib.hid hR
      unfold planA at HRQ0 HWQ0 HAG2
      rw [HW2.out] at HWQ0
      have HN3 := Lib.hid hn3
      clear hpl hb3 hbw4 hbw5 hQb hn3 hok his hlen hLq hR hR0
      obtain ⟨r0, r1, r2⟩ := HPC.out _ HKw5.out
      unfold planA
      go_wp2_with (refine wpList_store_row rfl _ _ _ rfl Q #[.int .i64 f, .int .u32 m, .slice A3 n3 d3] rfl rfl 26 _ HQB.out (Tryz.sizePn _ _ _) rfl (one3 _ _ _ _ _) ?_)
      refine (HRI5.out _ HKw5.out).mono ?_
      rintro e w6 ⟨rfl, hb6⟩
      have HK6 := Lib.hid (HKw5.out.trans (hb6.mono HKw5.out.size))
      have HQ6 := Lib.hid hb6
      clear hb6 r0 r1 r2 hw5 hw4 hQ
      obtain ⟨q0, q1, q2⟩ := HQC.out _ HQ6.out
      go_wp2_with fail
      refine (HAG2.out _ HQ6.out).mono ?_
      rintro e w7 ⟨hb7, hcase⟩
      have HK7 := Lib.hid (HK6.out.trans (hb7.mono HK6.out.size))
      have HQ7 := Lib.hid (HQ6.out.trans (hb7.mono HQ6.out.size))
      obtain ⟨_, v6, rfl, hpl⟩ := hcase.resolve_right fun h => h.1 HRQ1.out
      rw [HT2.out] at hpl
      obtain ⟨A6, d6, hv6, _, _⟩ := hpl.form
      rw [HN3.out] at hv6
      subst hv6
      obtain ⟨w8, Z, hw8, hZ, hZl, hbw8, hZb⟩ := box_any w7 #[.int .i64 0, .int .u32 0, .slice none 0 0] 26
      have HZB := Lib.hid hZb
      obtain ⟨w9, hw9⟩ : ∃ w9, w8.setRow Z #[.int .i64 f, .int .u32 m, .slice A6 n3 d6] = w9 := ⟨_, rfl⟩
      have hbw9 : Below w7.heap.size w7 w9 := by rw [← hw9]; exact below_row hbw8 (by omega) _
      have HKw9 := Lib.hid (HK7.out.trans (hbw9.mono HK7.out.size))
      have HZC : Hid (∀ W, Below w9.heap.size w9 W → W.cell? ⟨Z, 0, none⟩ = some (.int .i64 f) ∧ W.cell? ⟨Z, 1, none⟩ = some (.int .u32 m) ∧ W.cell? ⟨Z, 2, none⟩ = some (.slice A6 n3 d6)) := Lib.hid (by
        have hq : w9.heap[Z]? = some (.cells #[.int .i64 f, .int .u32 m, .slice A6 n3 d6] 26 (0, 0)) := by rw [← hw9]; exact setRow_heap _ _ _ _ _ _ hZb
        exact fun W hk => three_heads (keep_block hq hk))
      have HQ9 := Lib.hid (HQ7.out.trans (hbw9.mono HQ7.out.size))
      have HPZ : Hid (∀ W, Below w9.heap.size w9 W → PlsAt W (.slice A6 n3 d6) Lq) := Lib.hid (fun W hk => (hpl.keep hbw9).keep hk)
      have HRQ := Lib.hid (fun W (hk : Below w9.heap.size w9 W) => HRQ0.out W (HQ9.out.trans (hk.mono HQ9.out.size)))
      have HWQ := Lib.hid (fun W (hk : Below w9.heap.size w9 W) => HWQ0.out W (HQ9.out.trans (hk.mono HQ9.out.size)))
      have HWP9 := Lib.hid (fun W (hk : Below w9.heap.size w9 W) => HWP.out W (HKw9.out.trans (hk.mono HKw9.out.size)))
      clear HWP
      have HWP := Lib.hid HWP9.out
      have HSE := Lib.hid (fun W (hk : Below w9.heap.size w9 W) => refSame_any f m (.slice A3 n3 d3) Lq f m (.slice A6 n3 d6) Lq W (HPQ.out W (HQ9.out.trans (hk.mono HQ9.out.size))) (HPZ.out W hk))
      rw [show sameB f m Lq f m Lq = true from decide_eq_true ⟨rfl, rfl, rfl⟩] at HSE
      have HSA : Hid (∀ W, Below w9.heap.size w9 W → W.cell? ⟨P, 0, none⟩ = some (.int .i64 f) ∧ W.cell? ⟨P, 1, none⟩ = some (.int .u32 m) ∧ W.cell? ⟨P, 2, none⟩ = some (.slice A nl cA) ∧ W.cell? ⟨Q, 0, none⟩ = some (.int .i64 f) ∧ W.cell? ⟨Q, 1, none⟩ = some (.int .u32 m) ∧ W.cell? ⟨Q, 2, none⟩ = some (.slice A3 n3 d3) ∧ W.cell? ⟨Z, 0, none⟩ = some (.int .i64 f) ∧ W.cell? ⟨Z, 1, none⟩ = some (.int .u32 m) ∧ W.cell? ⟨Z, 2, none⟩ = some (.slice A6 n3 d6)) := Lib.hid (fun W hk => by
        obtain ⟨a0, a1, a2⟩ := HPC.out W (HKw9.out.trans (hk.mono HKw9.out.size))
        obtain ⟨b0, b1, b2⟩ := HQC.out W (HQ9.out.trans (hk.mono HQ9.out.size))
        obtain ⟨c0, c1, c2⟩ := HZC.out W hk
        exact ⟨a0, a1, a2, b0, b1, b2, c0, c1, c2⟩)
      have hkd : Below w9.heap.size w9 w9.drew := (Below.refl _ w9).drew
      unfold planA at HSE
      clear hpl hb7 hbw8 hbw9 hZb q0 q1 q2 hcase HWP9
      unfold planA
      go_wp2_with (refine wpList_store_row rfl _ _ _ rfl Z #[.int .i64 f, .int .u32 m, .slice A6 n3 d6] rfl rfl 26 _ HZB.out (Tryz.sizePn _ _ _) rfl (one3 _ _ _ _ _) ?_)
      refine wp_region_held_drew (S := fun w' => w'.cell? ⟨P, 0, none⟩ = some (.int .i64 f) ∧ w'.cell? ⟨P, 1, none⟩ = some (.int .u32 m) ∧ w'.cell? ⟨P, 2, none⟩ = some (.slice A nl cA) ∧ w'.cell? ⟨Q, 0, none⟩ = some (.int .i64 f) ∧ w'.cell? ⟨Q, 1, none⟩ = some (.int .u32 m) ∧ w'.cell? ⟨Q, 2, none⟩ = some (.slice A3 n3 d3) ∧ w'.cell? ⟨Z, 0, none⟩ = some (.int .i64 f) ∧ w'.cell? ⟨Z, 1, none⟩ = some (.int .u32 m) ∧ w'.cell? ⟨Z, 2, none⟩ = some (.slice A6 n3 d6)) (by kernel_rfl) ?_ (fun hHeld => ?_)
      · exact HSA.out _ hkd
      refine wpAnyH_take (i := 0) (oi := ⟨some 34, _, _, _, _, _⟩) (v := ?_) rfl (by kernel_rfl) (by kernel_rfl) (by kernel_rfl) (fun _ _ _ h => h) (Or.inl ⟨by kernel_rfl, ?_⟩) (by assumption) ?_
      rotate_left
      · (intro w hSw; (try dsimp only at hSw); go_simp; try with_reducible rfl)
      (try simp only [Act.put, List.setIfInBounds_toArray, List.set_cons_zero, List.set_cons_succ])
      refine wpAnyH_take (i := 1) (oi := ⟨some 35, _, _, _, _, _⟩) (v := ?_) rfl (by kernel_rfl) (by kernel_rfl) (by kernel_rfl) (fun _ _ _ h => h) (Or.inl ⟨by kernel_rfl, ?_⟩) (by assumption) ?_
      rotate_left
      · (intro w hSw; (try dsimp only at hSw); go_simp; try with_reducible rfl)
      (try simp only [Act.put, List.setIfInBounds_toArray, List.set_cons_zero, List.set_cons_succ])
      refine wpAnyH_take (i := 2) (oi := ⟨some 36, _, _, _, _, _⟩) (v := ?_) rfl (by kernel_rfl) (by kernel_rfl) (by kernel_rfl) (fun _ _ _ h => h) (Or.inl ⟨by kernel_rfl, ?_⟩) (by assumption) ?_
      rotate_left
      · (intro w hSw; (try dsimp only at hSw); go_simp; try with_reducible rfl)
      (try simp only [Act.put, List.setIfInBounds_toArray, List.set_cons_zero, List.set_cons_succ])
      refine wpAnyH_take (i := 3) (oi := ⟨some 37, _, _, _, _, _⟩) (v := ?_) rfl (by kernel_rfl) (by kernel_rfl) (by kernel_rfl) (fun _ _ _ h => h) (Or.inl ⟨by kernel_rfl, ?_⟩) (by assumption) ?_
      rotate_left
      · (intro w hSw; (try dsimp only at hSw); go_simp; try with_reducible rfl)
      (try simp only [Act.put, List.setIfInBounds_toArray, List.set_cons_zero, List.set_cons_succ])
      refine wpAnyH_take (i := 4) (oi := ⟨some 38, _, _, _, _, _⟩) (v := ?_) rfl (by kernel_rfl) (by kernel_rfl) (by kernel_rfl) (fun _ _ _ h => h) (Or.inl ⟨by kernel_rfl, ?_⟩) (by assumption) ?_
      rotate_left
      · (intro w hSw; (try dsimp only at hSw); go_simp; try with_reducible rfl)
      (try simp only [Act.put, List.setIfInBounds_toArray, List.set_cons_zero, List.set_cons_succ])
      refine wpAnyH_take (i := 5) (oi := ⟨some 39, _, _, _, _, _⟩) (v := ?_) rfl (by kernel_rfl) (by kernel_rfl) (by kernel_rfl) (fun _ _ _ h => h) (Or.inl ⟨by kernel_rfl, ?_⟩) (by assumption) ?_
      rotate_left
      · (intro w hSw; (try dsimp only at hSw); go_simp; try with_reducible rfl)
      (try simp only [Act.put, List.setIfInBounds_toArray, List.set_cons_zero, List.set_cons_succ])
      refine wpAnyH_take (i := 6) (oi := ⟨some 40, _, _, _, _, _⟩) (v := ?_) rfl (by kernel_rfl) (by kernel_rfl) (by kernel_rfl) (fun _ _ _ h => h) (Or.inl ⟨by kernel_rfl, ?_⟩) (by assumption) ?_
      rotate_left
      · (intro w hSw; (try dsimp only at hSw); go_simp; try with_reducible rfl)
      (try simp only [Act.put, List.setIfInBounds_toArray, List.set_cons_zero, List.set_cons_succ])
      refine wpAnyH_take (i := 7) (oi := ⟨some 41, _, _, _, _, _⟩) (v := ?_) rfl (by kernel_rfl) (by kernel_rfl) (by kernel_rfl) (fun _ _ _ h => h) (Or.inl ⟨by kernel_rfl, ?_⟩) (by assumption) ?_
      rotate_left
      · (intro w hSw; (try dsimp only at hSw); go_simp; try with_reducible rfl)
      (try simp only [Act.put, List.setIfInBounds_toArray, List.set_cons_zero, List.set_cons_succ])
      refine wpAnyH_ready (rs := [8]) (by kernel_rfl) (by simp) ?_
      refine AllReadyH.cons (o := ⟨some 42, _, _, _, _, _⟩) rfl (fun K hK => ?_) AllReadyH.nil
      rw [if_pos (by kernel_rfl)]
      go_simp
      go_at_call 17; refine (HRQ.out _ hkd).mono ?_; rintro e wa ⟨rfl, hba⟩
      have hka := hkd.trans (hba.mono hkd.size)
      refine hK.out _ _ ?_ (fun hHeld => ?_)
      · exact HSA.out _ hka
      clear hK K
      (try simp only [Act.put, List.setIfInBounds_toArray, List.set_cons_zero, List.set_cons_succ])
      refine wpAnyH_take (i := 9) (oi := ⟨some 43, _, _, _, _, _⟩) (v := ?_) rfl (by kernel_rfl) (by kernel_rfl) (by kernel_rfl) (fun _ _ _ h => h) (Or.inl ⟨by kernel_rfl, ?_⟩) (by assumption) ?_
      rotate_left
      · (intro w hSw; (try dsimp only at hSw); go_simp; try with_reducible rfl)
      (try simp only [Act.put, List.setIfInBounds_toArray, List.set_cons_zero, List.set_cons_succ])
      refine wpAnyH_take (i := 10) (oi := ⟨some 44, _, _, _, _, _⟩) (v := ?_) rfl (by kernel_rfl) (by kernel_rfl) (by kernel_rfl) (fun _ _ _ h => h) (Or.inl ⟨by kernel_rfl, ?_⟩) (by assumption) ?_
      rotate_left
      · (intro w hSw; (try dsimp only at hSw); go_simp; try with_reducible rfl)
      (try simp only [Act.put, List.setIfInBounds_toArray, List.set_cons_zero, List.set_cons_succ])
      refine wpAnyH_take (i := 11) (oi := ⟨some 45, _, _, _, _, _⟩) (v := ?_) rfl (by kernel_rfl) (by kernel_rfl) (by kernel_rfl) (fun _ _ _ h => h) (Or.inl ⟨by kernel_rfl, ?_⟩) (by assumption) ?_
      rotate_left
      · (intro w hSw; (try dsimp only at hSw); go_simp; try with_reducible rfl)
      (try simp only [Act.put, List.setIfInBounds_toArray, List.set_cons_zero, List.set_cons_succ])
      refine wpAnyH_take (i := 12) (oi := ⟨some 46, _, _, _, _, _⟩) (v := ?_) rfl (by kernel_rfl) (by kernel_rfl) (by kernel_rfl) (fun _ _ _ h => h) (Or.inl ⟨by kernel_rfl, ?_⟩) (by assumption) ?_
      rotate_left
      · (intro w hSw; (try dsimp only at hSw); go_simp; try with_reducible rfl)
      (try simp only [Act.put, List.setIfInBounds_toArray, List.set_cons_zero, List.set_cons_succ])
      refine wpAnyH_take (i := 13) (oi := ⟨some 47, _, _, _, _, _⟩) (v := ?_) rfl (by kernel_rfl) (by kernel_rfl) (by kernel_rfl) (fun _ _ _ h => h) (Or.inl ⟨by kernel_rfl, ?_⟩) (by assumption) ?_
      rotate_left
      · (intro w hSw; (try dsimp only at hSw); go_simp; try with_reducible rfl)
      (try simp only [Act.put, List.setIfInBounds_toArray, List.set_cons_zero, List.set_cons_succ])
      refine wpAnyH_take (i := 14) (oi := ⟨some 48, _, _, _, _, _⟩) (v := ?_) rfl (by kernel_rfl) (by kernel_rfl) (by kernel_rfl) (fun _ _ _ h => h) (Or.inl ⟨by kernel_rfl, ?_⟩) (by assumption) ?_
      rotate_left
      · (intro w hSw; (try dsimp only at hSw); go_simp; try with_reducible rfl)
      (try simp only [Act.put, List.setIfInBounds_toArray, List.set_cons_zero, List.set_cons_succ])
      refine wpAnyH_take (i := 15) (oi := ⟨some 49, _, _, _, _, _⟩) (v := ?_) rfl (by kernel_rfl) (by kernel_rfl) (by kernel_rfl) (fun _ _ _ h => h) (Or.inl ⟨by kernel_rfl, ?_⟩) (by assumption) ?_
      rotate_left
      · (intro w hSw; (try dsimp only at hSw); go_simp; try with_reducible rfl)
      (try simp only [Act.put, List.setIfInBounds_toArray, List.set_cons_zero, List.set_cons_succ])
      refine wpAnyH_take (i := 16) (oi := ⟨some 50, _, _, _, _, _⟩) (v := ?_) rfl (by kernel_rfl) (by kernel_rfl) (by kernel_rfl) (fun _ _ _ h => h) (Or.inl ⟨by kernel_rfl, ?_⟩) (by assumption) ?_
      rotate_left
      · (intro w hSw; (try dsimp only at hSw); go_simp; try with_reducible rfl)
      (try simp only [Act.put, List.setIfInBounds_toArray, List.set_cons_zero, List.set_cons_succ])
      refine wpAnyH_take (i := 17) (oi := ⟨some 51, _, _, _, _, _⟩) (v := ?_) rfl (by kernel_rfl) (by kernel_rfl) (by kernel_rfl) (fun _ _ _ h => h) (Or.inl ⟨by kernel_rfl, ?_⟩) (by assumption) ?_
      rotate_left
      · (intro w hSw; (try dsimp only at hSw); go_simp; try with_reducible rfl)
      (try simp only [Act.put, List.setIfInBounds_toArray, List.set_cons_zero, List.set_cons_succ])
      refine wpAnyH_take (i := 18) (oi := ⟨some 52, _, _, _, _, _⟩) (v := ?_) rfl (by kernel_rfl) (by kernel_rfl) (by kernel_rfl) (fun _ _ _ h => h) (Or.inl ⟨by kernel_rfl, ?_⟩) (by assumption) ?_
      rotate_left
      · (intro w hSw; (try dsimp only at hSw); go_simp; try with_reducible rfl)
      (try simp only [Act.put, List.setIfInBounds_toArray, List.set_cons_zero, List.set_cons_succ])
      refine wpAnyH_take (i := 19) (oi := ⟨some 53, _, _, _, _, _⟩) (v := ?_) rfl (by kernel_rfl) (by kernel_rfl) (by kernel_rfl) (fun _ _ _ h => h) (Or.inl ⟨by kernel_rfl, ?_⟩) (by assumption) ?_
      rotate_left
      · (intro w hSw; (try dsimp only at hSw); go_simp; try with_reducible rfl)
      (try simp only [Act.put, List.setIfInBounds_toArray, List.set_cons_zero, List.set_cons_succ])
      refine wpAnyH_take (i := 20) (oi := ⟨some 54, _, _, _, _, _⟩) (v := ?_) rfl (by kernel_rfl) (by kernel_rfl) (by kernel_rfl) (fun _ _ _ h => h) (Or.inl ⟨by kernel_rfl, ?_⟩) (by assumption) ?_
      rotate_left
      · (intro w hSw; (try dsimp only at hSw); go_simp; try with_reducible rfl)
      (try simp only [Act.put, List.setIfInBounds_toArray, List.set_cons_zero, List.set_cons_succ])
      refine wpAnyH_take (i := 21) (oi := ⟨some 55, _, _, _, _, _⟩) (v := ?_) rfl (by kernel_rfl) (by kernel_rfl) (by kernel_rfl) (fun _ _ _ h => h) (Or.inl ⟨by kernel_rfl, ?_⟩) (by assumption) ?_
      rotate_left
      · (intro w hSw; (try dsimp only at hSw); go_simp; try with_reducible rfl)
      (try simp only [Act.put, List.setIfInBounds_toArray, List.set_cons_zero, List.set_cons_succ])
      refine wpAnyH_take (i := 22) (oi := ⟨some 56, _, _, _, _, _⟩) (v := ?_) rfl (by kernel_rfl) (by kernel_rfl) (by kernel_rfl) (fun _ _ _ h => h) (Or.inl ⟨by kernel_rfl, ?_⟩) (by assumption) ?_
      rotate_left
      · (intro w hSw; (try dsimp only at hSw); go_simp; try with_reducible rfl)
      (try simp only [Act.put, List.setIfInBounds_toArray, List.set_cons_zero, List.set_cons_succ])
      refine wpAnyH_take (i := 23) (oi := ⟨some 57, _, _, _, _, _⟩) (v := ?_) rfl (by kernel_rfl) (by kernel_rfl) (by kernel_rfl) (fun _ _ _ h => h) (Or.inl ⟨by kernel_rfl, ?_⟩) (by assumption) ?_
      rotate_left
      · (intro w hSw; (try dsimp only at hSw); go_simp; try with_reducible rfl)
      (try simp only [Act.put, List.setIfInBounds_toArray, List.set_cons_zero, List.set_cons_succ])
      refine wpAnyH_take (i := 24) (oi := ⟨some 58, _, _, _, _, _⟩) (v := ?_) rfl (by kernel_rfl) (by kernel_rfl) (by kernel_rfl) (fun _ _ _ h => h) (Or.inl ⟨by kernel_rfl, ?_⟩) (by assumption) ?_
      rotate_left
      · (intro w hSw; (try dsimp only at hSw); go_simp; try with_reducible rfl)
      (try simp only [Act.put, List.setIfInBounds_toArray, List.set_cons_zero, List.set_cons_succ])
      refine wpAnyH_take (i := 25) (oi := ⟨some 59, _, _, _, _, _⟩) (v := ?_) rfl (by kernel_rfl) (by kernel_rfl) (by kernel_rfl) (fun _ _ _ h => h) (Or.inl ⟨by kernel_rfl, ?_⟩) (by assumption) ?_
      rotate_left
      · (intro w hSw; (try dsimp only at hSw); go_simp; try with_reducible rfl)
      (try simp only [Act.put, List.setIfInBounds_toArray, List.set_cons_zero, List.set_cons_succ])
      refine wpAnyH_take (i := 27) (oi := ⟨some 61, _, _, _, _, _⟩) (v := ?_) rfl (by kernel_rfl) (by kernel_rfl) (by kernel_rfl) (fun _ _ _ h => h) (Or.inl ⟨by kernel_rfl, ?_⟩) (by assumption) ?_
      rotate_left
      · (intro w hSw; (try dsimp only at hSw); go_simp; try with_reducible rfl)
      (try simp only [Act.put, List.setIfInBounds_toArray, List.set_cons_zero, List.set_cons_succ])
      refine wpAnyH_ready (rs := [26]) (by kernel_rfl) (by simp) ?_
      refine AllReadyH.cons (o := ⟨some 60, _, _, _, _, _⟩) rfl (fun K hK => ?_) AllReadyH.nil
      rw [if_pos (by kernel_rfl)]
      go_simp
      go_at_call 27; refine (HWP.out _ hka).mono ?_; rintro e wb ⟨vp, rfl, hvp, hbb⟩
      have hkb := hka.trans (hbb.mono hka.size)
      refine hK.out _ _ ?_ (fun hHeld => ?_)
      · exact HSA.out _ hkb
      clear hK K
      (try simp only [Act.put, List.setIfInBounds_toArray, List.set_cons_zero, List.set_cons_succ])
      refine wpAnyH_ready (rs := [28]) (by kernel_rfl) (by simp) ?_
      refine AllReadyH.cons (o := ⟨some 62, _, _, _, _, _⟩) rfl (fun K hK => ?_) AllReadyH.nil
      rw [if_pos (by kernel_rfl)]
      go_simp
      go_at_call 27; refine (HWQ.out _ hkb).mono ?_; rintro e wc ⟨vq, rfl, hvq, hbc⟩
      have hkc := hkb.trans (hbc.mono hkb.size)
      have hvp := hvp.keep hbc
      refine hK.out _ _ ?_ (fun hHeld => ?_)
      · exact HSA.out _ hkc
      clear hK K
      (try simp only [Act.put, List.setIfInBounds_toArray, List.set_cons_zero, List.set_cons_succ])
      refine wpAnyH_ready (rs := [29]) (by kernel_rfl) (by simp) ?_
      refine AllReadyH.cons (o := ⟨some 63, _, _, _, _, _⟩) rfl (fun K hK => ?_) AllReadyH.nil
      rw [if_pos (by kernel_rfl)]
      go_simp
      go_at_call 26; refine (same_any _ _ _ _ hvp hvq).mono ?_; rintro e wd ⟨rfl, hbd⟩
      have hkf := hkc.trans (hbd.mono hkc.size)
      refine hK.out _ _ ?_ (fun hHeld => ?_)
      · exact HSA.out _ hkf
      clear hK K
      (try simp only [Act.put, List.setIfInBounds_toArray, List.set_cons_zero, List.set_cons_succ])
      refine wpAnyH_take (i := 30) (oi := ⟨some 64, _, _, _, _, _⟩) (v := ?_) rfl (by kernel_rfl) (by kernel_rfl) (by kernel_rfl) (fun _ _ _ h => h) (Or.inl ⟨by kernel_rfl, ?_⟩) (by assumption) ?_
      rotate_left
      · (intro w hSw; (try dsimp only at hSw); go_simp; try with_reducible rfl)
      (try simp only [Act.put, List.setIfInBounds_toArray, List.set_cons_zero, List.set_cons_succ])
      refine wpAnyH_take (i := 31) (oi := ⟨some 65, _, _, _, _, _⟩) (v := ?_) rfl (by kernel_rfl) (by kernel_rfl) (by kernel_rfl) (fun _ _ _ h => h) (Or.inl ⟨by kernel_rfl, ?_⟩) (by assumption) ?_
      rotate_left
      · (intro w hSw; (try dsimp only at hSw); go_simp; try with_reducible rfl)
      (try simp only [Act.put, List.setIfInBounds_toArray, List.set_cons_zero, List.set_cons_succ])
      refine wpAnyH_take (i := 32) (oi := ⟨some 66, _, _, _, _, _⟩) (v := ?_) rfl (by kernel_rfl) (by kernel_rfl) (by kernel_rfl) (fun _ _ _ h => h) (Or.inl ⟨by kernel_rfl, ?_⟩) (by assumption) ?_
      rotate_left
      · (intro w hSw; (try dsimp only at hSw); go_simp; try with_reducible rfl)
      (try simp only [Act.put, List.setIfInBounds_toArray, List.set_cons_zero, List.set_cons_succ])
      refine wpAnyH_take (i := 33) (oi := ⟨some 67, _, _, _, _, _⟩) (v := ?_) rfl (by kernel_rfl) (by kernel_rfl) (by kernel_rfl) (fun _ _ _ h => h) (Or.inl ⟨by kernel_rfl, ?_⟩) (by assumption) ?_
      rotate_left
      · (intro w hSw; (try dsimp only at hSw); go_simp; try with_reducible rfl)
      (try simp only [Act.put, List.setIfInBounds_toArray, List.set_cons_zero, List.set_cons_succ])
      refine wpAnyH_ready (rs := [34]) (by kernel_rfl) (by simp) ?_
      refine AllReadyH.cons (o := ⟨some 68, _, _, _, _, _⟩) rfl (fun K hK => ?_) AllReadyH.nil
      rw [if_pos (by kernel_rfl)]
      go_simp
      go_at_call 13; refine (HSE.out _ hkf).mono ?_; rintro e wf ⟨rfl, hbf⟩
      have hkg := hkf.trans (hbf.mono hkf.size)
      refine hK.out _ _ ?_ (fun hHeld => ?_)
      · exact HSA.out _ hkg
      clear hK K
      (try simp only [Act.put, List.setIfInBounds_toArray, List.set_cons_zero, List.set_cons_succ])
      refine wpAnyH_take (i := 35) (oi := ⟨some 69, _, _, _, _, _⟩) (v := ?_) rfl (by kernel_rfl) (by kernel_rfl) (by kernel_rfl) (fun _ _ _ h => h) (Or.inl ⟨by kernel_rfl, ?_⟩) (by assumption) ?_
      rotate_left
      · (intro w hSw; (try dsimp only at hSw); go_simp; try with_reducible rfl)
      (try simp only [Act.put, List.setIfInBounds_toArray, List.set_cons_zero, List.set_cons_succ])
      refine wpAnyH_take (i := 36) (oi := ⟨some 70, _, _, _, _, _⟩) (v := ?_) rfl (by kernel_rfl) (by kernel_rfl) (by kernel_rfl) (fun _ _ _ h => h) (Or.inl ⟨by kernel_rfl, ?_⟩) (by assumption) ?_
      rotate_left
      · (intro w hSw; (try dsimp only at hSw); go_simp; try with_reducible rfl)
      (try simp only [Act.put, List.setIfInBounds_toArray, List.set_cons_zero, List.set_cons_succ])
      refine wpAnyH_ready (rs := [37]) (by kernel_rfl) (by simp) ?_
      refine AllReadyH.cons (o := ⟨some 71, _, _, _, _, _⟩) rfl (fun K hK => ?_) AllReadyH.nil
      rw [if_pos (by kernel_rfl)]
      go_simp
      go_at_call 14; refine (HAW.out _).mono ?_; rintro e wg ⟨rfl, hbg⟩
      have hkh := hkg.trans (hbg.mono hkg.size)
      refine hK.out _ _ ?_ (fun hHeld => ?_)
      · exact HSA.out _ hkh
      clear hK K
      (try simp only [Act.put, List.setIfInBounds_toArray, List.set_cons_zero, List.set_cons_succ])
      refine wpAnyH_take (i := 38) (oi := ⟨some 72, _, _, _, _, _⟩) (v := ?_) rfl (by kernel_rfl) (by kernel_rfl) (by kernel_rfl) (fun _ _ _ h => h) (Or.inl ⟨by kernel_rfl, ?_⟩) (by assumption) ?_
      rotate_left
      · (intro w hSw; (try dsimp only at hSw); go_simp; try with_reducible rfl)
      (try simp only [Act.put, List.setIfInBounds_toArray, List.set_cons_zero, List.set_cons_succ])
      refine wpAnyH_take (i := 39) (oi := ⟨some 2, _, _, _, _, _⟩) (v := ?_) rfl (by kernel_rfl) (by kernel_rfl) (by kernel_rfl) (fun _ _ _ h => h) (Or.inl ⟨by kernel_rfl, ?_⟩) (by assumption) ?_
      rotate_left
      · (intro w hSw; (try dsimp only at hSw); go_simp; try with_reducible rfl)
      (try simp only [Act.put, List.setIfInBounds_toArray, List.set_cons_zero, List.set_cons_succ])
      refine wpAnyH_done (by kernel_rfl) ?_ _
      have HKX := Lib.hid (HB1.out.trans ((HKw9.out.trans (hkh.mono HKw9.out.size)).mono HB1.out.size))
      clear hHeld hkh hkg hkf hkc hkb hka hkd hbg hbf hbd hbc hbb hba hvp hvq
      go_wp2_with fail
      go_ret
      exact ⟨rfl, HKX.out⟩
    · have HRN := Lib.hid (fun W hk => (HRI.out W hk).2 hR0)
      obtain ⟨w4, Q, hw4, hQ, hQl, hbw4, hQb⟩ := box_any w3 #[.int .i64 0, .int .u32 0, .slice none 0 0] 26
      have HQB := Lib.hid hQb
      obtain ⟨w5, hw5⟩ : ∃ w5, w4.setRow Q #[.int .i64 0, .int .u32 0, .slice none 0 0] = w5 := ⟨_, rfl⟩
      have hbw5 : Below w3.heap.size w3 w5 := by rw [← hw5]; exact below_row hbw4 (by omega) _
      have HKw5 := Lib.hid (HK3.out.trans (hbw5.mono HK3.out.size))
      have HQC : Hid (∀ W, Below w5.heap.size w5 W → W.cell? ⟨Q, 0, none⟩ = some (.int .i64 0) ∧ W.cell? ⟨Q, 1, none⟩ = some (.int .u32 0) ∧ W.cell? ⟨Q, 2, none⟩ = some (.slice none 0 0)) := Lib.hid (by
        have hq : w5.heap[Q]? = some (.cells #[.int .i64 0, .int .u32 0, .slice none 0 0] 26 (0, 0)) := by rw [← hw5]; exact setRow_heap _ _ _ _ _ _ hQb
        exact fun W hk => three_heads (keep_block hq hk))
      have HSM := Lib.hid (fun W => refSame_any 0 0 (.slice none 0 0) [] 0 0 (.slice none 0 0) [] W (PlsIn.nil _ _) (PlsIn.nil _ _))
      rw [show sameB 0 0 [] 0 0 [] = true from decide_eq_true ⟨rfl, rfl, rfl⟩] at HSM
      unfold planA at HSM
      clear hb3 hbw4 hbw5 hQb hR0
      obtain ⟨r0, r1, r2⟩ := HPC.out _ HKw5.out
      unfold planA
      go_wp2_with (refine wpList_store_row rfl _ _ _ rfl Q #[.int .i64 0, .int .u32 0, .slice none 0 0] rfl rfl 26 _ HQB.out (Tryz.sizePn _ _ _) rfl (one3 _ _ _ _ _) ?_)
      refine (HRN.out _ HKw5.out).mono ?_
      rintro e w6 ⟨rfl, hb6⟩
      have HK6 := Lib.hid (HKw5.out.trans (hb6.mono HKw5.out.size))
      obtain ⟨q0, q1, q2⟩ := HQC.out _ hb6
      clear hb6 r0 r1 r2 hw5 hw4 hQ
      go_wp2_with fail
      refine (HSM.out _).mono ?_
      rintro e w7 ⟨rfl, hb7⟩
      have HK7 := Lib.hid (HK6.out.trans (hb7.mono HK6.out.size))
      clear hb7 q0 q1 q2
      go_wp2_with fail
      refine (HAW.out _).mono ?_
      rintro e wz ⟨rfl, hbz⟩
      have HKZ := Lib.hid (HB1.out.trans ((HK7.out.trans (hbz.mono HK7.out.size)).mono HB1.out.size))
      clear hbz
      go_wp2_with fail
      go_ret
      exact ⟨rfl, HKZ.out⟩
  · have HLN := Lib.hid (fun W hk => (HLI.out W hk).2 hlit)
    clear HLI hlit ho
    go_enter Tryz.func5, Tryz.ntmps5
    go_wp2_with fail
    refine (HLN.out _ HK1.out).mono ?_
    rintro e w2 ⟨rfl, hb2⟩
    have HK2 := Lib.hid hb2
    clear hb2
    go_wp2_with fail
    refine (HAW.out _).mono ?_
    rintro e w3 ⟨rfl, hb3⟩
    have HK3 := Lib.hid (HB1.out.trans ((HK2.out.trans (hb3.mono HK2.out.size)).mono HB1.out.size))
    clear hb3
    go_wp2_with fail
    go_ret
    exact ⟨rfl, HK3.out⟩
end Go.Proofs.YtpfpojehcjmfnaaGreat
