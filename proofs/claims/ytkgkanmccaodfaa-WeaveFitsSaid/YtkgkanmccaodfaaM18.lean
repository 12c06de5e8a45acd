/-
  A right plan is a light one; a plan's own block is none of its places'; three results, the first in a block.
  Conditions: none.
-/
import Derived.Test.YtkgkanmccaodfaaM17
import Derived.Test.YtkgkanmccaodfaaM03
import Derived.Test.YtkgkanmccaodfaaM12
import Derived.Test.YtkgkanmccaodfaaM02
import Derived.Laws.Rows

/-
  slices.Min, fits and Check of the program.
  Conditions: the slice reads as places; the numbers are of their kinds.
-/
set_option linter.unusedVariables false
set_option linter.unusedSimpArgs false
namespace Go.Proofs.Ytkgkanmccaodfaa
open Go.RowKit Go.Sort

/-- The least of some numbers. -/
def RetMin (xs : List Int) (w : World) (e : Ending) (w' : World) : Prop := ∃ r : Int, e = .returned (.int .i64 r) ∧ (0 ≤ r ↔ ∀ x ∈ xs, 0 ≤ x) ∧ w = w'

set_option maxRecDepth 100000 in
set_option maxHeartbeats 4000000 in
theorem min_any (v : Value) (xs : List Int) (w : World) (h : IntsAt w v xs) (h0 : 0 < xs.length) (hl : xs.length ≤ 1000) :
    Calls Try.prog 73 #[v] w (RetMin xs w) := by
  obtain ⟨A, c, rfl, _, hat⟩ := h
  obtain ⟨b, off, rfl, hbl, hcell⟩ := hat h0
  obtain ⟨n, hn⟩ : ∃ n, xs.length = n := ⟨_, rfl⟩
  obtain ⟨y, hy⟩ := exP_at (xs := xs) (k := 0) h0
  have c0 := hcell 0 y hy
  rw [Nat.add_zero] at c0
  have HC := Lib.hid hcell
  rw [hn] at h0 hl ⊢
  have HN := Lib.hid hn
  have HY := Lib.hid hy
  have hn1 : decide ((n : Int) < 1) = false := decide_eq_false (by omega)
  have hn2 : decide (n < 1) = false := decide_eq_false (by omega)
  have hn3 : (0 : Int) < (n : Int) := by omega
  clear hat hcell hn hy
  go_enter Try.func73, Try.ntmps73
  go_wp2_with fail
  go_loopg [3, 4] n (fun gg s3 s4 wr => ∃ (k : Nat) (q : Int), 1 ≤ k ∧ k ≤ n ∧ gg = n + 1 - k ∧ s4 = .int .i64 k ∧ s3 = .int .i64 q ∧ Hid (0 ≤ q ↔ ∀ x ∈ xs.take k, 0 ≤ x) ∧ w = wr)
  case atStart => exact ⟨1, y, Nat.le_refl _, h0, by omega, rfl, rfl, by
    have e : xs.take 1 = [y] := by rw [List.take_add_one, HY.out]; rfl
    show _ ↔ _
    rw [e]
    simp, rfl⟩
  case round =>
    obtain ⟨k, q, hk1, hk, hg, rfl, rfl, HQ, rfl⟩ := hrel
    have HG := Lib.hid hg
    clear hg
    by_cases hlt : k < n
    · have hltz : (k : Int) < (n : Int) := by omega
      have hk0 : (0 : Int) ≤ (k : Int) := by omega
      obtain ⟨z, hz⟩ := exP_at (xs := xs) (k := k) (by rw [HN.out]; exact hlt)
      have cz := HC.out k z hz
      have HZ : Hid (∀ r : Int, (0 ≤ r ↔ 0 ≤ q ∧ 0 ≤ z) → (0 ≤ r ↔ ∀ x ∈ xs.take (k + 1), 0 ≤ x)) := fun r hr => by
        have hq : 0 ≤ q ↔ ∀ x ∈ xs.take k, 0 ≤ x := HQ
        rw [hr, hq, List.take_add_one, hz, Option.toList_some]
        constructor
        · rintro ⟨h1, h2⟩ x hx
          rcases List.mem_append.1 hx with hx | hx
          · exact h1 x hx
          · rw [List.mem_singleton.1 hx]; exact h2
        · exact fun h => ⟨fun x hx => h x (List.mem_append_left _ hx), h z (List.mem_append_right _ (by simp))⟩
      clear hz
      go_wp2_with fail
      all_goals
        go_roundg (n + 1 - (k + 1))
        case measure => have := HG.out; omega
        case rel => exact ⟨k + 1, _, by omega, by omega, rfl, by go_num, rfl, HZ _ (by omega), rfl⟩
    · have hltz : ¬ (k : Int) < (n : Int) := by omega
      have HE : Hid (0 ≤ q ↔ ∀ x ∈ xs, 0 ≤ x) := by
        have h : 0 ≤ q ↔ ∀ x ∈ xs.take k, 0 ≤ x := HQ
        rwa [List.take_of_length_le (by rw [HN.out]; omega)] at h
      go_wp2
      go_ret
      exact ⟨q, rfl, HE, rfl⟩

theorem arrI_ints {W : World} {N : Nat} {g : Nat → Int} (h : ArrI W N g) : IntsAt W (.slice (some ⟨N, 0, none⟩) 16 16) ((List.range 16).map g) := by
  refine ⟨some ⟨N, 0, none⟩, 16, by simp, by simp, fun _ => ⟨N, 0, rfl, heap_lt h, fun j x hx => ?_⟩⟩
  rw [List.getElem?_map] at hx
  obtain ⟨i, hi, rfl⟩ := Option.map_eq_some_iff.1 hx
  have hj : j < 16 := by have := (List.getElem?_eq_some_iff.1 hi).1; simpa using this
  rw [List.getElem?_range hj] at hi
  cases hi
  rw [Nat.zero_add]
  exact ArrI.cell h hj
theorem arrI_nonneg {g : Nat → Int} : (∀ x ∈ (List.range 16).map g, 0 ≤ x) ↔ ∀ i, i < 16 → 0 ≤ g i :=
  ⟨fun h i hi => h _ (List.mem_map.2 ⟨i, List.mem_range.2 hi, rfl⟩), fun h x hx => by
    obtain ⟨i, hi, rfl⟩ := List.mem_map.1 hx
    exact h i (List.mem_range.1 hi)⟩

set_option maxRecDepth 100000 in
set_option maxHeartbeats 8000000 in
theorem fits_any (f : Int) (m : Nat) (v : Value) (l : List Pl) (w : World) (h : PlsAt w v l) (hL : LightL l) (hS : Shares l) (hm : m < 4294967296) (hf : 0 ≤ f) (hf2 : f ≤ 64) :
    Calls Try.prog 48 #[planA f m v] w (RetIff (FitsOk f m l) w) := by
  have hl : l.length ≤ 1000 := by have := hL.len; omega
  have HWN := Lib.hid (fun W h => windows_any f m v l W h hl hL.ok hm)
  have HRM := Lib.hid (fun W h => rooms_any f m v l W h hL hS hm hf hf2)
  have HSP := Lib.hid (fun W h => splits_any f m v l W h hl)
  have HCN := Lib.hid (fun W => count_any m W (by omega))
  have hconv := conv32 m hm
  have HH := Lib.hid h
  unfold planA at HWN HRM HSP
  obtain ⟨g, hg⟩ : ∃ g : Nat → Int, (fun i : Nat => roomN f m l (i : Int)) = g := ⟨_, rfl⟩
  have HGE := Lib.hid (show ∀ i : Nat, roomN f m l (i : Int) = g i from fun i => by rw [← hg])
  rw [hg] at HRM
  obtain ⟨sp, hsp⟩ : ∃ sp, splitsN l = sp := ⟨_, rfl⟩
  obtain ⟨nc, hnc⟩ : ∃ nc, cnt m = nc := ⟨_, rfl⟩
  rw [hsp] at HSP
  rw [hnc] at HCN
  have HSPB := Lib.hid (show sp ≤ 1000 by rw [← hsp]; exact Nat.le_trans (splits_le l) hl)
  have HNCB := Lib.hid (show nc ≤ 64 by rw [← hnc]; exact cnt_le m)
  have HIF := Lib.hid (show (ApartP m (pcsOf l) ∧ (∀ i, i < 16 → 0 ≤ g i) ∧ sp < nc) ↔ FitsOk f m l from
    ⟨fun h => ⟨h.1, fun i hi => by rw [HGE.out i]; exact h.2.1 i hi, by rw [hsp, hnc]; exact h.2.2⟩, fun h => ⟨h.apart, fun i hi => by rw [← HGE.out i]; exact h.room i hi, by rw [← hsp, ← hnc]; exact h.few⟩⟩)
  obtain ⟨q, hq⟩ : ∃ q, pcsOf l = q := ⟨_, rfl⟩
  rw [hq] at HWN HIF
  obtain ⟨w1, P, hw1, hP, hPl, hb1, hbox⟩ := box_any w #[.int .i64 f, .int .u32 m, v] 25
  have HB1 := Lib.hid hb1
  have HPB := Lib.hid hbox
  obtain ⟨r0, r1, r2⟩ := three_heads hbox
  have mixed : Try.prog.follows .mixedOrders = true := by kernel_rfl
  clear h hL hS hm hb1 hbox hg hsp hnc hq
  unfold planA
  go_enter Try.func48, Try.ntmps48
  go_wp2_with fail
  refine (HWN.out _ (HH.out.keep HB1.out)).mono ?_
  rintro e w2 ⟨ap, rfl, hap, hb2⟩
  have HAP := Lib.hid hap
  have HB2 := Lib.hid (HB1.out.trans (hb2.mono HB1.out.size))
  have HPB2 := Lib.hid (keep_block HPB.out hb2)
  obtain ⟨wd, R4, hwd, hNd, hNdl, hbd, had⟩ := box_any w2 (arrU fun _ => 0) 54
  rw [arrU_zero] at hwd
  have HAD := Lib.hid had
  have HBD := Lib.hid (HB2.out.trans (hbd.mono HB2.out.size))
  have HPBD := Lib.hid (keep_block HPB2.out hbd)
  have HR4 := Lib.hid (show w.heap.size ≤ R4 ∧ P < R4 by have := HB2.out.size; have := heap_lt HPB2.out; omega)
  obtain ⟨w4, hw4⟩ : ∃ w4, wd.setRow R4 (arrU (winF m q)) = w4 := ⟨_, rfl⟩
  have HB4 : Hid (Below w.heap.size w w4) := by rw [← hw4]; exact below_row HBD.out HR4.out.1 _
  have HPB4 : Hid (w4.heap[P]? = some (.cells #[.int .i64 f, .int .u32 m, v] 25 (0, 0))) := by rw [← hw4]; exact (setRow_other _ _ _ _ (by have := HR4.out.2; omega)).trans HPBD.out
  obtain ⟨s0, s1, s2⟩ := three_heads HPB4.out
  clear hap hb2 hbd had r0 r1 r2
  go_wp2_with (refine wpList_store_row rfl _ _ _ rfl R4 (arrU (winF m q)) rfl rfl 54 (arrU fun _ => 0) HAD.out (Try.sizeAU _) (by rw [arrU_size, arrU_size]) (arrU_one _) ?_)
  refine (HRM.out _ (HH.out.keep HB4.out)).mono ?_
  rintro e w5 ⟨rfl, hb5⟩
  have HB5 := Lib.hid (HB4.out.trans (hb5.mono HB4.out.size))
  have HPB5 := Lib.hid (keep_block HPB4.out hb5)
  obtain ⟨we, R5, hwe, hNe, hNel, hbe, hae⟩ := box_any w5 (arrI fun _ => 0) 55
  rw [arrI_zero] at hwe
  have HAE := Lib.hid hae
  have HBE := Lib.hid (HB5.out.trans (hbe.mono HB5.out.size))
  have HPBE := Lib.hid (keep_block HPB5.out hbe)
  have HR5 := Lib.hid (show w.heap.size ≤ R5 ∧ P < R5 by have := HB5.out.size; have := heap_lt HPB5.out; omega)
  obtain ⟨w6, hw6⟩ : ∃ w6, we.setRow R5 (arrI g) = w6 := ⟨_, rfl⟩
  have HB6 : Hid (Below w.heap.size w w6) := by rw [← hw6]; exact below_row HBE.out HR5.out.1 _
  have HPB6 : Hid (w6.heap[P]? = some (.cells #[.int .i64 f, .int .u32 m, v] 25 (0, 0))) := by rw [← hw6]; exact (setRow_other _ _ _ _ (by have := HR5.out.2; omega)).trans HPBE.out
  have HA6 : Hid (ArrI w6 R5 g) := by rw [← hw6]; exact setRow_heap _ _ _ _ _ _ HAE.out
  clear hb5 hbe hae s0 s1 s2 hw1 hwd hw4 hP hNd
  go_wp2_with (refine wpList_store_row rfl _ _ _ rfl R5 (arrI g) rfl rfl 55 (arrI fun _ => 0) HAE.out (Try.sizeAI _) (by rw [arrI_size, arrI_size]) (arrI_one _) ?_)
  rw [hw6]
  have HMIN := Lib.hid (fun W h => min_any (.slice (some ⟨R5, 0, none⟩) 16 16) ((List.range 16).map g) W h (by simp) (by simp))
  obtain ⟨r0, r1, r2⟩ := three_heads HPB6.out
  have lP := heap_lt HPB6.out
  clear hw6 hwe hNe
  cases ap with
  | false =>
    have HNO := Lib.hid (show ¬ FitsOk f m l from fun h => by have := HAP.out.2 (HIF.out.2 h).1; cases this)
    refine wp_region_held_drew (S := fun w' => w'.cell? ⟨P, 0, none⟩ = some (.int .i64 f) ∧ w'.cell? ⟨P, 1, none⟩ = some (.int .u32 m) ∧ w'.cell? ⟨P, 2, none⟩ = some (v)) (by kernel_rfl) ?_ (fun hHeld => ?_)
    · exact ⟨r0, r1, r2⟩
    refine wpAnyH_take (i := 0) (oi := ⟨some 13, _, _, _, _, _⟩) (v := ?_) rfl (by kernel_rfl) (by kernel_rfl) (by kernel_rfl) (fun _ _ _ h => h) (Or.inl ⟨by kernel_rfl, ?_⟩) (by assumption) ?_
    rotate_left
    · (intro w hSw; (try dsimp only at hSw); go_simp; try with_reducible rfl)
    (try simp only [Act.put, List.setIfInBounds_toArray, List.set_cons_zero, List.set_cons_succ])
    refine wpAnyH_take (i := 1) (oi := ⟨some 14, _, _, _, _, _⟩) (v := ?_) rfl (by kernel_rfl) (by kernel_rfl) (by kernel_rfl) (fun _ _ _ h => h) (Or.inl ⟨by kernel_rfl, ?_⟩) (by assumption) ?_
    rotate_left
    · (intro w hSw; (try dsimp only at hSw); go_simp; try with_reducible rfl)
    (try simp only [Act.put, List.setIfInBounds_toArray, List.set_cons_zero, List.set_cons_succ])
    refine wpAnyH_take (i := 2) (oi := ⟨some 15, _, _, _, _, _⟩) (v := undef) rfl (by kernel_rfl) (by kernel_rfl) (by kernel_rfl) (fun _ _ _ h => h) (Or.inr ⟨by kernel_rfl, rfl⟩) (by assumption) ?_
    (try simp only [Act.put, List.setIfInBounds_toArray, List.set_cons_zero, List.set_cons_succ])
    refine wpAnyH_take (i := 3) (oi := ⟨some 16, _, _, _, _, _⟩) (v := undef) rfl (by kernel_rfl) (by kernel_rfl) (by kernel_rfl) (fun _ _ _ h => h) (Or.inr ⟨by kernel_rfl, rfl⟩) (by assumption) ?_
    (try simp only [Act.put, List.setIfInBounds_toArray, List.set_cons_zero, List.set_cons_succ])
    refine wpAnyH_take (i := 4) (oi := ⟨some 17, _, _, _, _, _⟩) (v := undef) rfl (by kernel_rfl) (by kernel_rfl) (by kernel_rfl) (fun _ _ _ h => h) (Or.inr ⟨by kernel_rfl, rfl⟩) (by assumption) ?_
    (try simp only [Act.put, List.setIfInBounds_toArray, List.set_cons_zero, List.set_cons_succ])
    refine wpAnyH_take (i := 5) (oi := ⟨some 18, _, _, _, _, _⟩) (v := ?_) rfl (by kernel_rfl) (by kernel_rfl) (by kernel_rfl) (fun _ _ _ h => h) (Or.inl ⟨by kernel_rfl, ?_⟩) (by assumption) ?_
    rotate_left
    · (intro w hSw; (try dsimp only at hSw); go_simp; try with_reducible rfl)
    (try simp only [Act.put, List.setIfInBounds_toArray, List.set_cons_zero, List.set_cons_succ])
    refine wpAnyH_take (i := 6) (oi := ⟨some 19, _, _, _, _, _⟩) (v := ?_) rfl (by kernel_rfl) (by kernel_rfl) (by kernel_rfl) (fun _ _ _ h => h) (Or.inl ⟨by kernel_rfl, ?_⟩) (by assumption) ?_
    rotate_left
    · (intro w hSw; (try dsimp only at hSw); go_simp; try with_reducible rfl)
    (try simp only [Act.put, List.setIfInBounds_toArray, List.set_cons_zero, List.set_cons_succ])
    refine wpAnyH_take (i := 7) (oi := ⟨some 20, _, _, _, _, _⟩) (v := undef) rfl (by kernel_rfl) (by kernel_rfl) (by kernel_rfl) (fun _ _ _ h => h) (Or.inr ⟨by kernel_rfl, rfl⟩) (by assumption) ?_
    (try simp only [Act.put, List.setIfInBounds_toArray, List.set_cons_zero, List.set_cons_succ])
    refine wpAnyH_take (i := 8) (oi := ⟨some 21, _, _, _, _, _⟩) (v := undef) rfl (by kernel_rfl) (by kernel_rfl) (by kernel_rfl) (fun _ _ _ h => h) (Or.inr ⟨by kernel_rfl, rfl⟩) (by assumption) ?_
    (try simp only [Act.put, List.setIfInBounds_toArray, List.set_cons_zero, List.set_cons_succ])
    refine wpAnyH_take (i := 9) (oi := ⟨some 22, _, _, _, _, _⟩) (v := undef) rfl (by kernel_rfl) (by kernel_rfl) (by kernel_rfl) (fun _ _ _ h => h) (Or.inr ⟨by kernel_rfl, rfl⟩) (by assumption) ?_
    (try simp only [Act.put, List.setIfInBounds_toArray, List.set_cons_zero, List.set_cons_succ])
    refine wpAnyH_take (i := 10) (oi := ⟨some 23, _, _, _, _, _⟩) (v := undef) rfl (by kernel_rfl) (by kernel_rfl) (by kernel_rfl) (fun _ _ _ h => h) (Or.inr ⟨by kernel_rfl, rfl⟩) (by assumption) ?_
    (try simp only [Act.put, List.setIfInBounds_toArray, List.set_cons_zero, List.set_cons_succ])
    refine wpAnyH_take (i := 11) (oi := ⟨some 24, _, _, _, _, _⟩) (v := undef) rfl (by kernel_rfl) (by kernel_rfl) (by kernel_rfl) (fun _ _ _ h => h) (Or.inr ⟨by kernel_rfl, rfl⟩) (by assumption) ?_
    (try simp only [Act.put, List.setIfInBounds_toArray, List.set_cons_zero, List.set_cons_succ])
    refine wpAnyH_take (i := 12) (oi := ⟨some 25, _, _, _, _, _⟩) (v := undef) rfl (by kernel_rfl) (by kernel_rfl) (by kernel_rfl) (fun _ _ _ h => h) (Or.inr ⟨by kernel_rfl, rfl⟩) (by assumption) ?_
    (try simp only [Act.put, List.setIfInBounds_toArray, List.set_cons_zero, List.set_cons_succ])
    refine wpAnyH_take (i := 13) (oi := ⟨some 26, _, _, _, _, _⟩) (v := undef) rfl (by kernel_rfl) (by kernel_rfl) (by kernel_rfl) (fun _ _ _ h => h) (Or.inr ⟨by kernel_rfl, rfl⟩) (by assumption) ?_
    (try simp only [Act.put, List.setIfInBounds_toArray, List.set_cons_zero, List.set_cons_succ])
    refine wpAnyH_take (i := 14) (oi := ⟨some 27, _, _, _, _, _⟩) (v := ?_) rfl (by kernel_rfl) (by kernel_rfl) (by kernel_rfl) (fun _ _ _ h => h) (Or.inl ⟨by kernel_rfl, ?_⟩) (by assumption) ?_
    rotate_left
    · (intro w hSw; (try dsimp only at hSw); go_simp; try with_reducible rfl)
    (try simp only [Act.put, List.setIfInBounds_toArray, List.set_cons_zero, List.set_cons_succ])
    refine wpAnyH_take (i := 15) (oi := ⟨some 2, _, _, _, _, _⟩) (v := ?_) rfl (by kernel_rfl) (by kernel_rfl) (by kernel_rfl) (fun _ _ _ h => h) (Or.inl ⟨by kernel_rfl, ?_⟩) (by assumption) ?_
    rotate_left
    · (intro w hSw; (try dsimp only at hSw); go_simp; try with_reducible rfl)
    (try simp only [Act.put, List.setIfInBounds_toArray, List.set_cons_zero, List.set_cons_succ])
    refine wpAnyH_done (by kernel_rfl) ?_ _
    go_wp2_with fail
    go_ret
    exact RetIff.no HNO.out HB6.out.drew
  | true =>
    by_cases hge : ∀ i, i < 16 → 0 ≤ g i
    · by_cases hfew : sp < nc
      · have hfz : (sp : Int) < (nc : Int) := by omega
        have HYE := Lib.hid (HIF.out.1 ⟨HAP.out.1 rfl, hge, hfew⟩)
        have HGG := Lib.hid hge
        clear hge
        refine wp_region_held_drew (S := fun w' => w'.cell? ⟨P, 0, none⟩ = some (.int .i64 f) ∧ w'.cell? ⟨P, 1, none⟩ = some (.int .u32 m) ∧ w'.cell? ⟨P, 2, none⟩ = some (v)) (by kernel_rfl) ?_ (fun hHeld => ?_)
        · exact ⟨r0, r1, r2⟩
        refine wpAnyH_take (i := 0) (oi := ⟨some 13, _, _, _, _, _⟩) (v := ?_) rfl (by kernel_rfl) (by kernel_rfl) (by kernel_rfl) (fun _ _ _ h => h) (Or.inl ⟨by kernel_rfl, ?_⟩) (by assumption) ?_
        rotate_left
        · (intro w hSw; (try dsimp only at hSw); go_simp; try with_reducible rfl)
        (try simp only [Act.put, List.setIfInBounds_toArray, List.set_cons_zero, List.set_cons_succ])
        refine wpAnyH_take (i := 1) (oi := ⟨some 14, _, _, _, _, _⟩) (v := ?_) rfl (by kernel_rfl) (by kernel_rfl) (by kernel_rfl) (fun _ _ _ h => h) (Or.inl ⟨by kernel_rfl, ?_⟩) (by assumption) ?_
        rotate_left
        · (intro w hSw; (try dsimp only at hSw); go_simp; try with_reducible rfl)
        (try simp only [Act.put, List.setIfInBounds_toArray, List.set_cons_zero, List.set_cons_succ])
        refine wpAnyH_take (i := 2) (oi := ⟨some 15, _, _, _, _, _⟩) (v := ?_) rfl (by kernel_rfl) (by kernel_rfl) (by kernel_rfl) (fun _ _ _ h => h) (Or.inl ⟨by kernel_rfl, ?_⟩) (by assumption) ?_
        rotate_left
        · (intro w hSw; (try dsimp only at hSw); go_simp; try with_reducible rfl)
        (try simp only [Act.put, List.setIfInBounds_toArray, List.set_cons_zero, List.set_cons_succ])
        refine wpAnyH_ready (rs := [3]) (by kernel_rfl) (by simp) ?_
        refine AllReadyH.cons (o := ⟨some 16, _, _, _, _, _⟩) rfl (fun K hK => ?_) AllReadyH.nil
        rw [if_pos (by kernel_rfl)]
        go_simp
        go_at_call 73; refine (HMIN.out _ (arrI_ints (show ArrI w6.drew R5 g from HA6.out))).mono ?_; rintro e wq ⟨mn, rfl, hmn, rfl⟩
        have hmn0 : 0 ≤ mn := hmn.2 (arrI_nonneg.2 HGG.out)
        clear hmn
        refine hK.out _ _ ?_ (fun hHeld => ?_)
        · exact hHeld
        clear hK K
        (try simp only [Act.put, List.setIfInBounds_toArray, List.set_cons_zero, List.set_cons_succ])
        refine wpAnyH_take (i := 4) (oi := ⟨some 17, _, _, _, _, _⟩) (v := ?_) rfl (by kernel_rfl) (by kernel_rfl) (by kernel_rfl) (fun _ _ _ h => h) (Or.inl ⟨by kernel_rfl, ?_⟩) (by assumption) ?_
        rotate_left
        · (intro w hSw; (try dsimp only at hSw); go_simp; try with_reducible rfl)
        (try simp only [Act.put, List.setIfInBounds_toArray, List.set_cons_zero, List.set_cons_succ])
        refine wpAnyH_take (i := 5) (oi := ⟨some 18, _, _, _, _, _⟩) (v := ?_) rfl (by kernel_rfl) (by kernel_rfl) (by kernel_rfl) (fun _ _ _ h => h) (Or.inl ⟨by kernel_rfl, ?_⟩) (by assumption) ?_
        rotate_left
        · (intro w hSw; (try dsimp only at hSw); go_simp; try with_reducible rfl)
        (try simp only [Act.put, List.setIfInBounds_toArray, List.set_cons_zero, List.set_cons_succ])
        refine wpAnyH_take (i := 6) (oi := ⟨some 19, _, _, _, _, _⟩) (v := ?_) rfl (by kernel_rfl) (by kernel_rfl) (by kernel_rfl) (fun _ _ _ h => h) (Or.inl ⟨by kernel_rfl, ?_⟩) (by assumption) ?_
        rotate_left
        · (intro w hSw; (try dsimp only at hSw); go_simp; try with_reducible rfl)
        (try simp only [Act.put, List.setIfInBounds_toArray, List.set_cons_zero, List.set_cons_succ])
        refine wpAnyH_take (i := 7) (oi := ⟨some 20, _, _, _, _, _⟩) (v := ?_) rfl (by kernel_rfl) (by kernel_rfl) (by kernel_rfl) (fun _ _ _ h => h) (Or.inl ⟨by kernel_rfl, ?_⟩) (by assumption) ?_
        rotate_left
        · (intro w hSw; (try dsimp only at hSw); go_simp; try with_reducible rfl)
        (try simp only [Act.put, List.setIfInBounds_toArray, List.set_cons_zero, List.set_cons_succ])
        refine wpAnyH_take (i := 9) (oi := ⟨some 22, _, _, _, _, _⟩) (v := ?_) rfl (by kernel_rfl) (by kernel_rfl) (by kernel_rfl) (fun _ _ _ h => h) (Or.inl ⟨by kernel_rfl, ?_⟩) (by assumption) ?_
        rotate_left
        · (intro w hSw; (try dsimp only at hSw); go_simp; try with_reducible rfl)
        (try simp only [Act.put, List.setIfInBounds_toArray, List.set_cons_zero, List.set_cons_succ])
        refine wpAnyH_take (i := 10) (oi := ⟨some 23, _, _, _, _, _⟩) (v := ?_) rfl (by kernel_rfl) (by kernel_rfl) (by kernel_rfl) (fun _ _ _ h => h) (Or.inl ⟨by kernel_rfl, ?_⟩) (by assumption) ?_
        rotate_left
        · (intro w hSw; (try dsimp only at hSw); go_simp; try with_reducible rfl)
        (try simp only [Act.put, List.setIfInBounds_toArray, List.set_cons_zero, List.set_cons_succ])
        refine wpAnyH_take (i := 11) (oi := ⟨some 24, _, _, _, _, _⟩) (v := ?_) rfl (by kernel_rfl) (by kernel_rfl) (by kernel_rfl) (fun _ _ _ h => h) (Or.inl ⟨by kernel_rfl, ?_⟩) (by assumption) ?_
        rotate_left
        · (intro w hSw; (try dsimp only at hSw); go_simp; try with_reducible rfl)
        (try simp only [Act.put, List.setIfInBounds_toArray, List.set_cons_zero, List.set_cons_succ])
        refine wpAnyH_ready (rs := [8]) (by kernel_rfl) (by simp) ?_
        refine AllReadyH.cons (o := ⟨some 21, _, _, _, _, _⟩) rfl (fun K hK => ?_) AllReadyH.nil
        rw [if_pos (by kernel_rfl)]
        go_simp
        go_at_call 58; refine (HSP.out _ (HH.out.keep HB6.out.drew)).mono ?_; rintro e wq2 ⟨rfl, hb8⟩
        refine hK.out _ _ ?_ (fun hHeld => ?_)
        · exact ⟨(hb8.cell (p := ⟨P, 0, none⟩) lP).trans r0, (hb8.cell (p := ⟨P, 1, none⟩) lP).trans r1, (hb8.cell (p := ⟨P, 2, none⟩) lP).trans r2⟩
        clear hK K
        (try simp only [Act.put, List.setIfInBounds_toArray, List.set_cons_zero, List.set_cons_succ])
        refine wpAnyH_ready (rs := [12]) (by kernel_rfl) (by simp) ?_
        refine AllReadyH.cons (o := ⟨some 25, _, _, _, _, _⟩) rfl (fun K hK => ?_) AllReadyH.nil
        rw [if_pos (by kernel_rfl)]
        go_simp
        go_at_call 74; refine (HCN.out _).mono ?_; rintro e wq4 ⟨rfl, rfl⟩
        refine hK.out _ _ ?_ (fun hHeld => ?_)
        · exact (by assumption)
        clear hK K
        (try simp only [Act.put, List.setIfInBounds_toArray, List.set_cons_zero, List.set_cons_succ])
        refine wpAnyH_take (i := 13) (oi := ⟨some 26, _, _, _, _, _⟩) (v := ?_) rfl (by kernel_rfl) (by kernel_rfl) (by kernel_rfl) (fun _ _ _ h => h) (Or.inl ⟨by kernel_rfl, ?_⟩) (by assumption) ?_
        rotate_left
        · (intro w hSw; (try dsimp only at hSw); go_simp; try with_reducible rfl)
        (try simp only [Act.put, List.setIfInBounds_toArray, List.set_cons_zero, List.set_cons_succ])
        refine wpAnyH_take (i := 14) (oi := ⟨some 27, _, _, _, _, _⟩) (v := ?_) rfl (by kernel_rfl) (by kernel_rfl) (by kernel_rfl) (fun _ _ _ h => h) (Or.inl ⟨by kernel_rfl, ?_⟩) (by assumption) ?_
        rotate_left
        · (intro w hSw; (try dsimp only at hSw); go_simp; try with_reducible rfl)
        (try simp only [Act.put, List.setIfInBounds_toArray, List.set_cons_zero, List.set_cons_succ])
        refine wpAnyH_take (i := 15) (oi := ⟨some 2, _, _, _, _, _⟩) (v := ?_) rfl (by kernel_rfl) (by kernel_rfl) (by kernel_rfl) (fun _ _ _ h => h) (Or.inl ⟨by kernel_rfl, ?_⟩) (by assumption) ?_
        rotate_left
        · (intro w hSw; (try dsimp only at hSw); go_simp; try with_reducible rfl)
        (try simp only [Act.put, List.setIfInBounds_toArray, List.set_cons_zero, List.set_cons_succ])
        refine wpAnyH_done (by kernel_rfl) ?_ _
        have HB9 := Lib.hid (HB6.out.drew.trans (hb8.mono HB6.out.size))
        go_wp2_with fail
        go_ret
        exact RetIff.yes HYE.out HB9.out
      · have hfz : decide ((sp : Int) < (nc : Int)) = false := decide_eq_false (by omega)
        have hfz2 : decide (sp < nc) = false := decide_eq_false hfew
        have HNO := Lib.hid (show ¬ FitsOk f m l from fun h => hfew (HIF.out.2 h).2.2)
        have HGG := Lib.hid hge
        clear hge
        refine wp_region_held_drew (S := fun w' => w'.cell? ⟨P, 0, none⟩ = some (.int .i64 f) ∧ w'.cell? ⟨P, 1, none⟩ = some (.int .u32 m) ∧ w'.cell? ⟨P, 2, none⟩ = some (v)) (by kernel_rfl) ?_ (fun hHeld => ?_)
        · exact ⟨r0, r1, r2⟩
        refine wpAnyH_take (i := 0) (oi := ⟨some 13, _, _, _, _, _⟩) (v := ?_) rfl (by kernel_rfl) (by kernel_rfl) (by kernel_rfl) (fun _ _ _ h => h) (Or.inl ⟨by kernel_rfl, ?_⟩) (by assumption) ?_
        rotate_left
        · (intro w hSw; (try dsimp only at hSw); go_simp; try with_reducible rfl)
        (try simp only [Act.put, List.setIfInBounds_toArray, List.set_cons_zero, List.set_cons_succ])
        refine wpAnyH_take (i := 1) (oi := ⟨some 14, _, _, _, _, _⟩) (v := ?_) rfl (by kernel_rfl) (by kernel_rfl) (by kernel_rfl) (fun _ _ _ h => h) (Or.inl ⟨by kernel_rfl, ?_⟩) (by assumption) ?_
        rotate_left
        · (intro w hSw; (try dsimp only at hSw); go_simp; try with_reducible rfl)
        (try simp only [Act.put, List.setIfInBounds_toArray, List.set_cons_zero, List.set_cons_succ])
        refine wpAnyH_take (i := 2) (oi := ⟨some 15, _, _, _, _, _⟩) (v := ?_) rfl (by kernel_rfl) (by kernel_rfl) (by kernel_rfl) (fun _ _ _ h => h) (Or.inl ⟨by kernel_rfl, ?_⟩) (by assumption) ?_
        rotate_left
        · (intro w hSw; (try dsimp only at hSw); go_simp; try with_reducible rfl)
        (try simp only [Act.put, List.setIfInBounds_toArray, List.set_cons_zero, List.set_cons_succ])
        refine wpAnyH_ready (rs := [3]) (by kernel_rfl) (by simp) ?_
        refine AllReadyH.cons (o := ⟨some 16, _, _, _, _, _⟩) rfl (fun K hK => ?_) AllReadyH.nil
        rw [if_pos (by kernel_rfl)]
        go_simp
        go_at_call 73; refine (HMIN.out _ (arrI_ints (show ArrI w6.drew R5 g from HA6.out))).mono ?_; rintro e wq ⟨mn, rfl, hmn, rfl⟩
        have hmn0 : 0 ≤ mn := hmn.2 (arrI_nonneg.2 HGG.out)
        clear hmn
        refine hK.out _ _ ?_ (fun hHeld => ?_)
        · exact hHeld
        clear hK K
        (try simp only [Act.put, List.setIfInBounds_toArray, List.set_cons_zero, List.set_cons_succ])
        refine wpAnyH_take (i := 4) (oi := ⟨some 17, _, _, _, _, _⟩) (v := ?_) rfl (by kernel_rfl) (by kernel_rfl) (by kernel_rfl) (fun _ _ _ h => h) (Or.inl ⟨by kernel_rfl, ?_⟩) (by assumption) ?_
        rotate_left
        · (intro w hSw; (try dsimp only at hSw); go_simp; try with_reducible rfl)
        (try simp only [Act.put, List.setIfInBounds_toArray, List.set_cons_zero, List.set_cons_succ])
        refine wpAnyH_take (i := 5) (oi := ⟨some 18, _, _, _, _, _⟩) (v := ?_) rfl (by kernel_rfl) (by kernel_rfl) (by kernel_rfl) (fun _ _ _ h => h) (Or.inl ⟨by kernel_rfl, ?_⟩) (by assumption) ?_
        rotate_left
        · (intro w hSw; (try dsimp only at hSw); go_simp; try with_reducible rfl)
        (try simp only [Act.put, List.setIfInBounds_toArray, List.set_cons_zero, List.set_cons_succ])
        refine wpAnyH_take (i := 6) (oi := ⟨some 19, _, _, _, _, _⟩) (v := ?_) rfl (by kernel_rfl) (by kernel_rfl) (by kernel_rfl) (fun _ _ _ h => h) (Or.inl ⟨by kernel_rfl, ?_⟩) (by assumption) ?_
        rotate_left
        · (intro w hSw; (try dsimp only at hSw); go_simp; try with_reducible rfl)
        (try simp only [Act.put, List.setIfInBounds_toArray, List.set_cons_zero, List.set_cons_succ])
        refine wpAnyH_take (i := 7) (oi := ⟨some 20, _, _, _, _, _⟩) (v := ?_) rfl (by kernel_rfl) (by kernel_rfl) (by kernel_rfl) (fun _ _ _ h => h) (Or.inl ⟨by kernel_rfl, ?_⟩) (by assumption) ?_
        rotate_left
        · (intro w hSw; (try dsimp only at hSw); go_simp; try with_reducible rfl)
        (try simp only [Act.put, List.setIfInBounds_toArray, List.set_cons_zero, List.set_cons_succ])
        refine wpAnyH_take (i := 9) (oi := ⟨some 22, _, _, _, _, _⟩) (v := ?_) rfl (by kernel_rfl) (by kernel_rfl) (by kernel_rfl) (fun _ _ _ h => h) (Or.inl ⟨by kernel_rfl, ?_⟩) (by assumption) ?_
        rotate_left
        · (intro w hSw; (try dsimp only at hSw); go_simp; try with_reducible rfl)
        (try simp only [Act.put, List.setIfInBounds_toArray, List.set_cons_zero, List.set_cons_succ])
        refine wpAnyH_take (i := 10) (oi := ⟨some 23, _, _, _, _, _⟩) (v := ?_) rfl (by kernel_rfl) (by kernel_rfl) (by kernel_rfl) (fun _ _ _ h => h) (Or.inl ⟨by kernel_rfl, ?_⟩) (by assumption) ?_
        rotate_left
        · (intro w hSw; (try dsimp only at hSw); go_simp; try with_reducible rfl)
        (try simp only [Act.put, List.setIfInBounds_toArray, List.set_cons_zero, List.set_cons_succ])
        refine wpAnyH_take (i := 11) (oi := ⟨some 24, _, _, _, _, _⟩) (v := ?_) rfl (by kernel_rfl) (by kernel_rfl) (by kernel_rfl) (fun _ _ _ h => h) (Or.inl ⟨by kernel_rfl, ?_⟩) (by assumption) ?_
        rotate_left
        · (intro w hSw; (try dsimp only at hSw); go_simp; try with_reducible rfl)
        (try simp only [Act.put, List.setIfInBounds_toArray, List.set_cons_zero, List.set_cons_succ])
        refine wpAnyH_ready (rs := [8]) (by kernel_rfl) (by simp) ?_
        refine AllReadyH.cons (o := ⟨some 21, _, _, _, _, _⟩) rfl (fun K hK => ?_) AllReadyH.nil
        rw [if_pos (by kernel_rfl)]
        go_simp
        go_at_call 58; refine (HSP.out _ (HH.out.keep HB6.out.drew)).mono ?_; rintro e wq2 ⟨rfl, hb8⟩
        refine hK.out _ _ ?_ (fun hHeld => ?_)
        · exact ⟨(hb8.cell (p := ⟨P, 0, none⟩) lP).trans r0, (hb8.cell (p := ⟨P, 1, none⟩) lP).trans r1, (hb8.cell (p := ⟨P, 2, none⟩) lP).trans r2⟩
        clear hK K
        (try simp only [Act.put, List.setIfInBounds_toArray, List.set_cons_zero, List.set_cons_succ])
        refine wpAnyH_ready (rs := [12]) (by kernel_rfl) (by simp) ?_
        refine AllReadyH.cons (o := ⟨some 25, _, _, _, _, _⟩) rfl (fun K hK => ?_) AllReadyH.nil
        rw [if_pos (by kernel_rfl)]
        go_simp
        go_at_call 74; refine (HCN.out _).mono ?_; rintro e wq4 ⟨rfl, rfl⟩
        refine hK.out _ _ ?_ (fun hHeld => ?_)
        · exact (by assumption)
        clear hK K
        (try simp only [Act.put, List.setIfInBounds_toArray, List.set_cons_zero, List.set_cons_succ])
        refine wpAnyH_take (i := 13) (oi := ⟨some 26, _, _, _, _, _⟩) (v := ?_) rfl (by kernel_rfl) (by kernel_rfl) (by kernel_rfl) (fun _ _ _ h => h) (Or.inl ⟨by kernel_rfl, ?_⟩) (by assumption) ?_
        rotate_left
        · (intro w hSw; (try dsimp only at hSw); go_simp; try with_reducible rfl)
        (try simp only [Act.put, List.setIfInBounds_toArray, List.set_cons_zero, List.set_cons_succ])
        refine wpAnyH_take (i := 14) (oi := ⟨some 27, _, _, _, _, _⟩) (v := ?_) rfl (by kernel_rfl) (by kernel_rfl) (by kernel_rfl) (fun _ _ _ h => h) (Or.inl ⟨by kernel_rfl, ?_⟩) (by assumption) ?_
        rotate_left
        · (intro w hSw; (try dsimp only at hSw); go_simp; try with_reducible rfl)
        (try simp only [Act.put, List.setIfInBounds_toArray, List.set_cons_zero, List.set_cons_succ])
        refine wpAnyH_take (i := 15) (oi := ⟨some 2, _, _, _, _, _⟩) (v := ?_) rfl (by kernel_rfl) (by kernel_rfl) (by kernel_rfl) (fun _ _ _ h => h) (Or.inl ⟨by kernel_rfl, ?_⟩) (by assumption) ?_
        rotate_left
        · (intro w hSw; (try dsimp only at hSw); go_simp; try with_reducible rfl)
        (try simp only [Act.put, List.setIfInBounds_toArray, List.set_cons_zero, List.set_cons_succ])
        refine wpAnyH_done (by kernel_rfl) ?_ _
        have HB9 := Lib.hid (HB6.out.drew.trans (hb8.mono HB6.out.size))
        go_wp2_with fail
        go_ret
        exact RetIff.no HNO.out HB9.out
    · have HNO := Lib.hid (show ¬ FitsOk f m l from fun h => hge (HIF.out.2 h).2.1)
      have HGG := Lib.hid hge
      clear hge
      refine wp_region_held_drew (S := fun w' => w'.cell? ⟨P, 0, none⟩ = some (.int .i64 f) ∧ w'.cell? ⟨P, 1, none⟩ = some (.int .u32 m) ∧ w'.cell? ⟨P, 2, none⟩ = some (v)) (by kernel_rfl) ?_ (fun hHeld => ?_)
      · exact ⟨r0, r1, r2⟩
      refine wpAnyH_take (i := 0) (oi := ⟨some 13, _, _, _, _, _⟩) (v := ?_) rfl (by kernel_rfl) (by kernel_rfl) (by kernel_rfl) (fun _ _ _ h => h) (Or.inl ⟨by kernel_rfl, ?_⟩) (by assumption) ?_
      rotate_left
      · (intro w hSw; (try dsimp only at hSw); go_simp; try with_reducible rfl)
      (try simp only [Act.put, List.setIfInBounds_toArray, List.set_cons_zero, List.set_cons_succ])
      refine wpAnyH_take (i := 1) (oi := ⟨some 14, _, _, _, _, _⟩) (v := ?_) rfl (by kernel_rfl) (by kernel_rfl) (by kernel_rfl) (fun _ _ _ h => h) (Or.inl ⟨by kernel_rfl, ?_⟩) (by assumption) ?_
      rotate_left
      · (intro w hSw; (try dsimp only at hSw); go_simp; try with_reducible rfl)
      (try simp only [Act.put, List.setIfInBounds_toArray, List.set_cons_zero, List.set_cons_succ])
      refine wpAnyH_take (i := 2) (oi := ⟨some 15, _, _, _, _, _⟩) (v := ?_) rfl (by kernel_rfl) (by kernel_rfl) (by kernel_rfl) (fun _ _ _ h => h) (Or.inl ⟨by kernel_rfl, ?_⟩) (by assumption) ?_
      rotate_left
      · (intro w hSw; (try dsimp only at hSw); go_simp; try with_reducible rfl)
      (try simp only [Act.put, List.setIfInBounds_toArray, List.set_cons_zero, List.set_cons_succ])
      refine wpAnyH_ready (rs := [3]) (by kernel_rfl) (by simp) ?_
      refine AllReadyH.cons (o := ⟨some 16, _, _, _, _, _⟩) rfl (fun K hK => ?_) AllReadyH.nil
      rw [if_pos (by kernel_rfl)]
      go_simp
      go_at_call 73; refine (HMIN.out _ (arrI_ints (show ArrI w6.drew R5 g from HA6.out))).mono ?_; rintro e wq ⟨mn, rfl, hmn, rfl⟩
      have hmn0 : decide (0 ≤ mn) = false := decide_eq_false fun h => HGG.out (arrI_nonneg.1 (hmn.1 h))
      clear hmn
      refine hK.out _ _ ?_ (fun hHeld => ?_)
      · exact hHeld
      clear hK K
      (try simp only [Act.put, List.setIfInBounds_toArray, List.set_cons_zero, List.set_cons_succ])
      refine wpAnyH_take (i := 4) (oi := ⟨some 17, _, _, _, _, _⟩) (v := ?_) rfl (by kernel_rfl) (by kernel_rfl) (by kernel_rfl) (fun _ _ _ h => h) (Or.inl ⟨by kernel_rfl, ?_⟩) (by assumption) ?_
      rotate_left
      · (intro w hSw; (try dsimp only at hSw); go_simp; try with_reducible rfl)
      (try simp only [Act.put, List.setIfInBounds_toArray, List.set_cons_zero, List.set_cons_succ])
      refine wpAnyH_take (i := 5) (oi := ⟨some 18, _, _, _, _, _⟩) (v := ?_) rfl (by kernel_rfl) (by kernel_rfl) (by kernel_rfl) (fun _ _ _ h => h) (Or.inl ⟨by kernel_rfl, ?_⟩) (by assumption) ?_
      rotate_left
      · (intro w hSw; (try dsimp only at hSw); go_simp; try with_reducible rfl)
      (try simp only [Act.put, List.setIfInBounds_toArray, List.set_cons_zero, List.set_cons_succ])
      refine wpAnyH_take (i := 6) (oi := ⟨some 19, _, _, _, _, _⟩) (v := ?_) rfl (by kernel_rfl) (by kernel_rfl) (by kernel_rfl) (fun _ _ _ h => h) (Or.inl ⟨by kernel_rfl, ?_⟩) (by assumption) ?_
      rotate_left
      · (intro w hSw; (try dsimp only at hSw); go_simp; try with_reducible rfl)
      (try simp only [Act.put, List.setIfInBounds_toArray, List.set_cons_zero, List.set_cons_succ])
      refine wpAnyH_take (i := 7) (oi := ⟨some 20, _, _, _, _, _⟩) (v := undef) rfl (by kernel_rfl) (by kernel_rfl) (by kernel_rfl) (fun _ _ _ h => h) (Or.inr ⟨by kernel_rfl, rfl⟩) (by assumption) ?_
      (try simp only [Act.put, List.setIfInBounds_toArray, List.set_cons_zero, List.set_cons_succ])
      refine wpAnyH_take (i := 8) (oi := ⟨some 21, _, _, _, _, _⟩) (v := undef) rfl (by kernel_rfl) (by kernel_rfl) (by kernel_rfl) (fun _ _ _ h => h) (Or.inr ⟨by kernel_rfl, rfl⟩) (by assumption) ?_
      (try simp only [Act.put, List.setIfInBounds_toArray, List.set_cons_zero, List.set_cons_succ])
      refine wpAnyH_take (i := 9) (oi := ⟨some 22, _, _, _, _, _⟩) (v := undef) rfl (by kernel_rfl) (by kernel_rfl) (by kernel_rfl) (fun _ _ _ h => h) (Or.inr ⟨by kernel_rfl, rfl⟩) (by assumption) ?_
      (try simp only [Act.put, List.setIfInBounds_toArray, List.set_cons_zero, List.set_cons_succ])
      refine wpAnyH_take (i := 10) (oi := ⟨some 23, _, _, _, _, _⟩) (v := undef) rfl (by kernel_rfl) (by kernel_rfl) (by kernel_rfl) (fun _ _ _ h => h) (Or.inr ⟨by kernel_rfl, rfl⟩) (by assumption) ?_
      (try simp only [Act.put, List.setIfInBounds_toArray, List.set_cons_zero, List.set_cons_succ])
      refine wpAnyH_take (i := 11) (oi := ⟨some 24, _, _, _, _, _⟩) (v := undef) rfl (by kernel_rfl) (by kernel_rfl) (by kernel_rfl) (fun _ _ _ h => h) (Or.inr ⟨by kernel_rfl, rfl⟩) (by assumption) ?_
      (try simp only [Act.put, List.setIfInBounds_toArray, List.set_cons_zero, List.set_cons_succ])
      refine wpAnyH_take (i := 12) (oi := ⟨some 25, _, _, _, _, _⟩) (v := undef) rfl (by kernel_rfl) (by kernel_rfl) (by kernel_rfl) (fun _ _ _ h => h) (Or.inr ⟨by kernel_rfl, rfl⟩) (by assumption) ?_
      (try simp only [Act.put, List.setIfInBounds_toArray, List.set_cons_zero, List.set_cons_succ])
      refine wpAnyH_take (i := 13) (oi := ⟨some 26, _, _, _, _, _⟩) (v := undef) rfl (by kernel_rfl) (by kernel_rfl) (by kernel_rfl) (fun _ _ _ h => h) (Or.inr ⟨by kernel_rfl, rfl⟩) (by assumption) ?_
      (try simp only [Act.put, List.setIfInBounds_toArray, List.set_cons_zero, List.set_cons_succ])
      refine wpAnyH_take (i := 14) (oi := ⟨some 27, _, _, _, _, _⟩) (v := ?_) rfl (by kernel_rfl) (by kernel_rfl) (by kernel_rfl) (fun _ _ _ h => h) (Or.inl ⟨by kernel_rfl, ?_⟩) (by assumption) ?_
      rotate_left
      · (intro w hSw; (try dsimp only at hSw); go_simp; try with_reducible rfl)
      (try simp only [Act.put, List.setIfInBounds_toArray, List.set_cons_zero, List.set_cons_succ])
      refine wpAnyH_take (i := 15) (oi := ⟨some 2, _, _, _, _, _⟩) (v := ?_) rfl (by kernel_rfl) (by kernel_rfl) (by kernel_rfl) (fun _ _ _ h => h) (Or.inl ⟨by kernel_rfl, ?_⟩) (by assumption) ?_
      rotate_left
      · (intro w hSw; (try dsimp only at hSw); go_simp; try with_reducible rfl)
      (try simp only [Act.put, List.setIfInBounds_toArray, List.set_cons_zero, List.set_cons_succ])
      refine wpAnyH_done (by kernel_rfl) ?_ _
      go_wp2_with fail
      go_ret
      exact RetIff.no HNO.out HB6.out.drew

set_option maxRecDepth 100000 in
set_option maxHeartbeats 4000000 in
theorem planCheck_any (f : Int) (m : Nat) (v : Value) (l : List Pl) (w : World) (h : PlsAt w v l) (hL : WideL l) (hm : m < 4294967296) :
    Calls Try.prog 26 #[planA f m v] w (fun e w' => ∃ E : Int, e = .returned (.int .i64 E) ∧ (E = 0 ∨ E = 30) ∧ (E = 0 ↔ Right f m l) ∧ Below w.heap.size w w') := by
  have HRC := Lib.hid (fun W => rightCores_any m W)
  have HRU := Lib.hid (fun W h => calls_iff (rightUnits_any f m v l W h hL))
  have HLI := Lib.hid (fun (h2 : UnitsOk f l) => hL.light h2.chk)
  have HRP := Lib.hid (fun (hL : LightL l) hf hf2 W h => calls_iff (rightPlaces_any f m v l W h hL hm hf hf2))
  have HFI := Lib.hid (fun (hL : LightL l) hS hf hf2 W h => calls_iff (fits_any f m v l W h hL hS hm hf hf2))
  have HCI := Lib.hid (@check_iff f m l)
  have HH := Lib.hid h
  unfold planA at HRU HRP HFI
  obtain ⟨w1, P, hw1, hP, hPl, hb1, hbox⟩ := box_any w #[.int .i64 f, .int .u32 m, v] 25
  have HB1 := Lib.hid hb1
  have HPB := Lib.hid hbox
  obtain ⟨r0, r1, r2⟩ := three_heads hbox
  clear h hL hm hb1 hbox
  unfold planA
  have hno : ∀ w', Below w.heap.size w w' → ¬ Right f m l → ∃ E : Int, Ending.returned (.int .i64 30) = .returned (.int .i64 E) ∧ (E = 0 ∨ E = 30) ∧ (E = 0 ↔ Right f m l) ∧ Below w.heap.size w w' :=
    fun w' hb hn => ⟨30, rfl, .inr rfl, ⟨(fun h => by cases h), fun h => absurd h hn⟩, hb⟩
  have HNN := Lib.hid hno
  clear hno
  by_cases h1 : m ≠ 0 ∧ m < 65536
  · rw [decide_eq_true h1] at HRC
    by_cases h2 : UnitsOk f l
    · have HU := Lib.hid (fun W h => (HRU.out W h).1 h2)
      obtain ⟨hff, hpp, _⟩ := units_iff.1 h2
      by_cases h3 : ∀ x ∈ l, WS f m x
      · have HP := Lib.hid (fun W h => (HRP.out (HLI.out h2) hff.1 hff.2 W h).1 h3)
        have hsh : Shares l := fun x hx => by have := hpp x hx; omega
        by_cases h4 : FitsOk f m l
        · have HF := Lib.hid (fun W h => (HFI.out (HLI.out h2) hsh (by omega) hff.2 W h).1 h4)
          have HYE := Lib.hid (HCI.out.1 ⟨h1, h2, h3, h4⟩)
          clear h1 h2 h3 h4 hff hpp hsh
          go_enter Try.func26, Try.ntmps26
          go_wp2_with fail
          refine (HRC.out _).mono ?_
          rintro e w' ⟨rfl, rfl⟩
          go_wp2_with fail
          refine (HU.out _ (HH.out.keep HB1.out)).mono ?_
          rintro e w2 ⟨rfl, hb2⟩
          have HB2 := Lib.hid (HB1.out.trans (hb2.mono HB1.out.size))
          have HPB2 := Lib.hid (keep_block HPB.out hb2)
          clear r0 r1 r2 hb2
          obtain ⟨r0, r1, r2⟩ := three_heads HPB2.out
          go_wp2_with fail
          refine (HP.out _ (HH.out.keep HB2.out)).mono ?_
          rintro e w3 ⟨rfl, hb3⟩
          have HB3 := Lib.hid (HB2.out.trans (hb3.mono HB2.out.size))
          have HPB3 := Lib.hid (keep_block HPB2.out hb3)
          clear r0 r1 r2 hb3
          obtain ⟨r0, r1, r2⟩ := three_heads HPB3.out
          go_wp2_with fail
          refine (HF.out _ (HH.out.keep HB3.out)).mono ?_
          rintro e w4 ⟨rfl, hb4⟩
          have HB4 := Lib.hid (HB3.out.trans (hb4.mono HB3.out.size))
          have HPB4 := Lib.hid (keep_block HPB3.out hb4)
          clear r0 r1 r2 hb4
          obtain ⟨r0, r1, r2⟩ := three_heads HPB4.out
          go_wp2_with fail
          go_ret
          exact ⟨0, rfl, .inl rfl, ⟨fun _ => HYE.out, fun _ => rfl⟩, HB4.out⟩
        · have HF := Lib.hid (fun W h => (HFI.out (HLI.out h2) hsh (by omega) hff.2 W h).2 h4)
          have HNO := Lib.hid (show ¬ Right f m l from fun h => h4 (HCI.out.2 h).2.2.2)
          clear h1 h2 h3 h4 hff hpp hsh
          go_enter Try.func26, Try.ntmps26
          go_wp2_with fail
          refine (HRC.out _).mono ?_
          rintro e w' ⟨rfl, rfl⟩
          go_wp2_with fail
          refine (HU.out _ (HH.out.keep HB1.out)).mono ?_
          rintro e w2 ⟨rfl, hb2⟩
          have HB2 := Lib.hid (HB1.out.trans (hb2.mono HB1.out.size))
          have HPB2 := Lib.hid (keep_block HPB.out hb2)
          clear r0 r1 r2 hb2
          obtain ⟨r0, r1, r2⟩ := three_heads HPB2.out
          go_wp2_with fail
          refine (HP.out _ (HH.out.keep HB2.out)).mono ?_
          rintro e w3 ⟨rfl, hb3⟩
          have HB3 := Lib.hid (HB2.out.trans (hb3.mono HB2.out.size))
          have HPB3 := Lib.hid (keep_block HPB2.out hb3)
          clear r0 r1 r2 hb3
          obtain ⟨r0, r1, r2⟩ := three_heads HPB3.out
          go_wp2_with fail
          refine (HF.out _ (HH.out.keep HB3.out)).mono ?_
          rintro e w4 ⟨rfl, hb4⟩
          have HB4 := Lib.hid (HB3.out.trans (hb4.mono HB3.out.size))
          have HPB4 := Lib.hid (keep_block HPB3.out hb4)
          clear r0 r1 r2 hb4
          obtain ⟨r0, r1, r2⟩ := three_heads HPB4.out
          go_wp2_with fail
          go_ret
          exact HNN.out _ HB4.out HNO.out
      · have HP := Lib.hid (fun W h => (HRP.out (HLI.out h2) hff.1 hff.2 W h).2 h3)
        have HNO := Lib.hid (show ¬ Right f m l from fun h => h3 (HCI.out.2 h).2.2.1)
        clear h1 h2 h3 hff hpp
        go_enter Try.func26, Try.ntmps26
        go_wp2_with fail
        refine (HRC.out _).mono ?_
        rintro e w' ⟨rfl, rfl⟩
        go_wp2_with fail
        refine (HU.out _ (HH.out.keep HB1.out)).mono ?_
        rintro e w2 ⟨rfl, hb2⟩
        have HB2 := Lib.hid (HB1.out.trans (hb2.mono HB1.out.size))
        have HPB2 := Lib.hid (keep_block HPB.out hb2)
        clear r0 r1 r2 hb2
        obtain ⟨r0, r1, r2⟩ := three_heads HPB2.out
        go_wp2_with fail
        refine (HP.out _ (HH.out.keep HB2.out)).mono ?_
        rintro e w3 ⟨rfl, hb3⟩
        have HB3 := Lib.hid (HB2.out.trans (hb3.mono HB2.out.size))
        have HPB3 := Lib.hid (keep_block HPB2.out hb3)
        clear r0 r1 r2 hb3
        obtain ⟨r0, r1, r2⟩ := three_heads HPB3.out
        go_wp2_with fail
        go_ret
        exact HNN.out _ HB3.out HNO.out
    · have HU := Lib.hid (fun W h => (HRU.out W h).2 h2)
      have HNO := Lib.hid (show ¬ Right f m l from fun h => h2 (HCI.out.2 h).2.1)
      clear h1 h2
      go_enter Try.func26, Try.ntmps26
      go_wp2_with fail
      refine (HRC.out _).mono ?_
      rintro e w' ⟨rfl, rfl⟩
      go_wp2_with fail
      refine (HU.out _ (HH.out.keep HB1.out)).mono ?_
      rintro e w2 ⟨rfl, hb2⟩
      have HB2 := Lib.hid (HB1.out.trans (hb2.mono HB1.out.size))
      have HPB2 := Lib.hid (keep_block HPB.out hb2)
      clear r0 r1 r2 hb2
      obtain ⟨r0, r1, r2⟩ := three_heads HPB2.out
      go_wp2_with fail
      go_ret
      exact HNN.out _ HB2.out HNO.out
  · rw [decide_eq_false h1] at HRC
    have HNO := Lib.hid (show ¬ Right f m l from fun h => h1 (HCI.out.2 h).1)
    clear h1
    go_enter Try.func26, Try.ntmps26
    go_wp2_with fail
    refine (HRC.out _).mono ?_
    rintro e w' ⟨rfl, rfl⟩
    go_wp2_with fail
    go_ret
    exact HNN.out _ HB1.out HNO.out
end Go.Proofs.Ytkgkanmccaodfaa

/-
  A right plan is a light one; a plan's own block is none of its places'; three results, the first in a block.
  Conditions: none.
-/
set_option linter.unusedVariables false
namespace Go.Proofs.Ytkgkanmccaodfaa
open Go.RowKit

theorem Right.light {f : Int} {m : Nat} {l : List Pl} (h : Right f m l) (hw : WideL l) : LightL l := by
  refine ⟨?_, hw.ok⟩
  have h1 : (l.map fun y => idxU y.u).length ≤ 240 := by
    refine nodup_lt 240 _ ?_ ?_
    · rw [List.Nodup, List.pairwise_iff_getElem]
      intro i j hi hj hij he
      rw [List.length_map] at hi hj
      rw [List.getElem_map, List.getElem_map] at he
      obtain ⟨d, rfl⟩ : ∃ d, j = i + d + 1 := ⟨j - i - 1, by omega⟩
      have h2 := h.rises d i _ _ (List.getElem?_eq_getElem hi) (List.getElem?_eq_getElem hj)
      have h3 := idxU_inj (h.place _ (List.getElem_mem hi)).unit (h.place _ (List.getElem_mem hj)).unit he
      omega
    · intro x hx
      obtain ⟨y, hy, rfl⟩ := List.mem_map.1 hx
      exact idxU_lt (h.place y hy).unit
  rw [List.length_map] at h1
  omega

/-! ### A plan's own block is none of its places' -/
theorem pn_cell {W : World} {R : Nat} {f : Int} {M : Nat} {v : Value} {T : TypeId} (h : W.heap[R]? = some (.cells #[.int .i64 f, .int .u32 (M : Int), v] T (0, 0))) (o : Nat) :
    W.cell? ⟨R, o, none⟩ = (#[.int .i64 f, .int .u32 (M : Int), v] : Array Value)[o]? := by
  simp [World.cell?, h]
theorem pcs_not {F : Nat → Prop} {W : World} {R : Nat} {f : Int} {M : Nat} {v u : Value} {T : TypeId} (h : W.heap[R]? = some (.cells #[.int .i64 f, .int .u32 (M : Int), v] T (0, 0))) {ps : List Pc} (hp : PcsIn F W u ps) : PcsIn (fun b => F b ∧ b ≠ R) W u ps := by
  obtain ⟨A, c, e, h1, h2, h3⟩ := hp
  refine ⟨A, c, e, h1, h2, fun hn => ?_⟩
  obtain ⟨b, off, e2, hb, hF, hc⟩ := h3 hn
  refine ⟨b, off, e2, hb, ⟨hF, ?_⟩, hc⟩
  rintro rfl
  obtain ⟨y, hy⟩ := exP_at (xs := ps) (k := 0) hn
  obtain ⟨g0, g1⟩ := hc 0 y hy
  rw [pn_cell h] at g0 g1
  rcases off with _ | _ | _ | off <;> simp at g0 g1
theorem pls_not {F : Nat → Prop} {W : World} {R : Nat} {f : Int} {M : Nat} {v u : Value} {T : TypeId} (h : W.heap[R]? = some (.cells #[.int .i64 f, .int .u32 (M : Int), v] T (0, 0))) {l : List Pl} (hp : PlsIn F W u l) : PlsIn (fun b => F b ∧ b ≠ R) W u l := by
  obtain ⟨ls, rfl, A, c, e, h1, h2, h3, h4⟩ := hp
  refine ⟨ls, rfl, A, c, e, h1, h2, fun hn => ?_, fun p hp => pcs_not h (h4 p hp)⟩
  obtain ⟨b, off, e2, hb, hF, hc⟩ := h3 hn
  refine ⟨b, off, e2, hb, ⟨hF, ?_⟩, hc⟩
  rintro rfl
  obtain ⟨y, hy⟩ := exP_at (xs := ls) (k := 0) hn
  obtain ⟨g0, g1, _⟩ := hc 0 y hy
  rw [pn_cell h] at g0 g1
  rcases off with _ | _ | _ | off <;> simp at g0 g1

theorem results_row_tmp2 {P : Program} {fn : Func} {p u v : Tmp} {ty : TypeId} (h : fn.results = #[.cell p ty, .tmp u, .tmp v]) (tmps : Array Value) (w : World) (g : Nat) (t : TypeId) (cs : Array Value) (fr : Nat × Nat) (d : TypeDesc)
    (hp : tmps.getD p undef = .pointer (some ⟨g, 0, none⟩)) (hg : w.heap[g]? = some (.cells cs t fr))
    (hu : P.underlying ty = some d) (hd : (match d with | .struct _ | .array _ _ => true | _ => false) = true) (hi : (P.info? ty).map (·.size) = some cs.size) (x y : Value) (hx : tmps.getD u undef = x) (hy : tmps.getD v undef = y) :
    (results fn tmps).run P w = .ok (.tuple #[.agg cs, x, y]) w := by
  have e : (results fn tmps).run P w = ((asAddr (tmps.getD p undef)).run P w).andThen fun a w₁ => ((loadVar ty a).run P w₁).andThen fun v' w₂ => .ok (.tuple #[v', tmps.getD u undef, tmps.getD v undef]) w₂ := by
    simp only [results, h]
    simp [Sem.run_bind, Result.andThen]
  rw [e, hp, hx, hy]
  simp [asAddr, run_loadVar_row w g t ty cs fr d hg hu hd hi, Result.andThen]
end Go.Proofs.Ytkgkanmccaodfaa
