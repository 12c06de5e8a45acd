/-
  How many ticks of windows change from a plan to another, in the document's words.
  Conditions: the slices read as places; their pieces are of their kinds.
-/
import Derived.Test.YtincbilobmhgeaaM19

/-
  How many ticks of windows change from a plan to another, in the document's words.
  Conditions: the slices read as places; their pieces are of their kinds.
-/
set_option linter.unusedVariables false
set_option linter.unusedSimpArgs false
namespace Go.Proofs.Ytincbilobmhgeaa
open Go.RowKit

def shiftP (la lb : List Pl) (i : Nat) : Nat := (((unitsU la lb).take i).map fun u => shiftU (placeU la u) (placeU lb u)).sum
theorem shiftP_succ {la lb : List Pl} {i : Nat} {u : Int} (h : (unitsU la lb)[i]? = some u) : shiftP la lb (i + 1) = shiftP la lb i + shiftU (placeU la u) (placeU lb u) := by
  unfold shiftP
  rw [List.take_add_one, h, Option.toList_some, List.map_append, List.sum_append]
  simp
theorem shiftP_all {la lb : List Pl} {i : Nat} (h : (unitsU la lb).length ≤ i) : shiftP la lb i = shiftT la lb := by unfold shiftP shiftT; rw [List.take_of_length_le h]
def shiftC (x y : Pl) (c : Nat) : Nat → Nat := sumTo fun t => (nOn x.ps (c : Int) t != nOn y.ps (c : Int) t).toNat
def shiftK (x y : Pl) : Nat → Nat := sumTo fun c => shiftC x y c 64
theorem shiftK_all (x y : Pl) : shiftK x y 16 = shiftU x y := rfl
theorem shiftC_le (x y : Pl) (c : Nat) : ∀ t : Nat, shiftC x y c t ≤ t
  | 0 => Nat.le_refl _
  | t + 1 => by
    have h1 := shiftC_le x y c t
    have h2 := Bool.toNat_le (nOn x.ps (c : Int) t != nOn y.ps (c : Int) t)
    have h3 : shiftC x y c (t + 1) = shiftC x y c t + (nOn x.ps (c : Int) t != nOn y.ps (c : Int) t).toNat := rfl
    omega
theorem shiftK_le (x y : Pl) : ∀ c : Nat, shiftK x y c ≤ 64 * c
  | 0 => Nat.le_refl _
  | c + 1 => by
    have h1 := shiftK_le x y c
    have h2 := shiftC_le x y c 64
    show shiftK x y c + shiftC x y c 64 ≤ 64 * (c + 1)
    omega
theorem shiftP_le (la lb : List Pl) : ∀ i : Nat, shiftP la lb i ≤ 1024 * i
  | 0 => Nat.le_refl _
  | i + 1 => by
    have h1 := shiftP_le la lb i
    cases h : (unitsU la lb)[i]? with
    | none =>
      have h2 : shiftP la lb (i + 1) = shiftP la lb i := by
        have h3 := List.getElem?_eq_none_iff.1 h
        rw [shiftP_all (by omega), shiftP_all h3]
      omega
    | some u =>
      rw [shiftP_succ h]
      have := shiftK_le (placeU la u) (placeU lb u) 16
      rw [shiftK_all] at this
      omega

set_option maxRecDepth 100000 in
set_option maxHeartbeats 16000000 in
theorem refShift_any (f1 f2 : Int) (m1 m2 : Nat) (v1 v2 : Value) (la lb : List Pl) (w : World) (h1 : PlsAt w v1 la) (h2 : PlsAt w v2 lb) (hL1 : LightL la) (hL2 : LightL lb) :
    Calls Try.prog 17 #[planA f1 m1 v1, planA f2 m2 v2] w (RetB (.int .i64 (shiftT la lb : Nat)) w) := by
  have mixed : Try.prog.follows .mixedOrders = true := by kernel_rfl
  obtain ⟨w1, P, hw1, hP, hPl, hb1, hpb⟩ := box_any w #[.int .i64 f1, .int .u32 m1, v1] 25
  obtain ⟨w2, Q, hw2, hQ, hQl, hb2, hqb⟩ := box_any w1 #[.int .i64 f2, .int .u32 m2, v2] 25
  have HB2 := Lib.hid (hb1.trans (hb2.mono hb1.size))
  have HPB := Lib.hid (keep_block hpb hb2)
  have HQB := Lib.hid hqb
  have HSP : Hid (∀ W, Below w2.heap.size w2 W → W.cell? ⟨P, 0, none⟩ = some (.int .i64 f1) ∧ W.cell? ⟨P, 1, none⟩ = some (.int .u32 m1) ∧ W.cell? ⟨P, 2, none⟩ = some v1) := Lib.hid (fun W hk => three_heads (keep_block HPB.out hk))
  have HSQ : Hid (∀ W, Below w2.heap.size w2 W → W.cell? ⟨Q, 0, none⟩ = some (.int .i64 f2) ∧ W.cell? ⟨Q, 1, none⟩ = some (.int .u32 m2) ∧ W.cell? ⟨Q, 2, none⟩ = some v2) := Lib.hid (fun W hk => three_heads (keep_block HQB.out hk))
  have HG1 : Hid (∀ W, Below w2.heap.size w2 W → PlsIn (fun b => b < w2.heap.size) W v1 la) := Lib.hid (fun W hk => ((PlsIn.mono h1 fun b hb _ => hb).keep (HB2.out.trans (hk.mono HB2.out.size))).mono fun b _ hb => Nat.lt_of_lt_of_le hb HB2.out.size)
  have HG2 : Hid (∀ W, Below w2.heap.size w2 W → PlsIn (fun b => b < w2.heap.size) W v2 lb) := Lib.hid (fun W hk => ((PlsIn.mono h2 fun b hb _ => hb).keep (HB2.out.trans (hk.mono HB2.out.size))).mono fun b _ hb => Nat.lt_of_lt_of_le hb HB2.out.size)
  have HF1 := Lib.hid (fun (u : Int) W (hk : Below w2.heap.size w2 W) => refFindG_any _ f1 m1 v1 la u W (HG1.out W hk) (by have := hL1.len; omega))
  have HF2 := Lib.hid (fun (u : Int) W (hk : Below w2.heap.size w2 W) => refFindG_any _ f2 m2 v2 lb u W (HG2.out W hk) (by have := hL2.len; omega))
  have HUN := Lib.hid (refUnits_any f1 f2 m1 m2 v1 v2 la lb w2 (h1.keep HB2.out) (h2.keep HB2.out) (by have := hL1.len; omega) (by have := hL2.len; omega))
  have HLL := Lib.hid (show LightL la ∧ LightL lb from ⟨hL1, hL2⟩)
  obtain ⟨p0, p1, p2⟩ := HSP.out _ (Below.refl _ _)
  obtain ⟨q0, q1, q2⟩ := HSQ.out _ (Below.refl _ _)
  unfold RetFind planA plA at HF1 HF2
  unfold planA at HUN ⊢
  obtain ⟨xs, hxs⟩ : ∃ xs, unitsU la lb = xs := ⟨_, rfl⟩
  have hnx := unitsU_le la lb
  rw [hxs] at HUN hnx
  have HXS := Lib.hid hxs
  clear h1 h2 hb1 hb2 hpb hqb hL1 hL2 hxs
  go_enter Try.func17, Try.ntmps17
  go_wp2_with fail
  refine HUN.out.mono ?_
  rintro e w3 ⟨v3, rfl, hv3, hb3, _⟩
  have HB3 := Lib.hid hb3
  have HV3 := Lib.hid hv3
  obtain ⟨A3, c3, rfl, _, _⟩ := hv3
  obtain ⟨nx, hnxe⟩ : ∃ n, xs.length = n := ⟨_, rfl⟩
  have HNX := Lib.hid hnxe
  rw [hnxe] at HV3 hnx ⊢
  clear hb3 hnxe p0 p1 p2 q0 q1 q2 hw1 hw2 hP hQ
  go_wp2_with fail
  go_loopg [5, 7] nx (fun gg s5 s7 wr => ∃ i : Nat, i ≤ nx ∧ gg = nx - i ∧ s7 = .int .i64 i ∧ s5 = .int .i64 (shiftP la lb i : Nat) ∧ Hid (Below w3.heap.size w3 wr))
  case atStart => exact ⟨0, Nat.zero_le _, rfl, rfl, rfl, Lib.hid (Below.refl _ _)⟩
  case round =>
    obtain ⟨i, hi, hgg, rfl, rfl, HBW⟩ := hrel
    have HG := Lib.hid hgg
    have HKW : Hid (Below w2.heap.size w2 wr) := Lib.hid (HB3.out.trans (HBW.out.mono HB3.out.size))
    clear hgg
    by_cases hlt : i < nx
    · have hltz : (i : Int) < (nx : Int) := by omega
      have hi0 : (0 : Int) ≤ (i : Int) := by omega
      obtain ⟨un, hun⟩ : ∃ x, xs[i]? = some x := ⟨_, List.getElem?_eq_getElem (by rw [HNX.out]; exact hlt)⟩
      have HU := Lib.hid hun
      obtain ⟨A', c', hA', _, hcell⟩ := HV3.out.keep HBW.out
      obtain ⟨lb', loff, hAb, hbl, hc⟩ := hcell (by rw [HNX.out]; omega)
      have hA2 : A3 = some ⟨lb', loff, none⟩ := by simp only [Value.slice.injEq] at hA'; rw [← hAb]; exact hA'.1
      rw [hA2]
      have HCE : Hid (∀ W, Below wr.heap.size wr W → W.cell? ⟨lb', loff + i, none⟩ = some (.int .i64 un)) := Lib.hid (fun W hk => (hk.cell (p := ⟨lb', loff + i, none⟩) hbl).trans (hc i un hun))
      have HSE1 : Hid (∀ W, Below wr.heap.size wr W → W.cell? ⟨P, 0, none⟩ = some (.int .i64 f1) ∧ W.cell? ⟨P, 1, none⟩ = some (.int .u32 m1) ∧ W.cell? ⟨P, 2, none⟩ = some v1 ∧ W.cell? ⟨lb', loff + i, none⟩ = some (.int .i64 un)) := Lib.hid (fun W hk => by
        obtain ⟨a, b, c⟩ := HSP.out W (HKW.out.trans (hk.mono HKW.out.size))
        exact ⟨a, b, c, HCE.out W hk⟩)
      have HF1 := Lib.hid (HF1.out un)
      have HF2 := Lib.hid (HF2.out un)
      obtain ⟨o1, ho1⟩ : ∃ o, findU la un = o := ⟨_, rfl⟩
      obtain ⟨o2, ho2⟩ : ∃ o, findU lb un = o := ⟨_, rfl⟩
      rw [ho1] at HF1
      rw [ho2] at HF2
      have HO1 := Lib.hid ho1
      have HO2 := Lib.hid ho2
      have HSUC := Lib.hid (shiftP_succ (la := la) (lb := lb) (by rw [HXS.out]; exact HU.out))
      have HLE := Lib.hid (shiftP_le la lb i)
      obtain ⟨sp, hsp⟩ : ∃ n, shiftP la lb i = n := ⟨_, rfl⟩
      rw [hsp] at HSUC HLE ⊢
      have hsp64 : sp ≤ 2000000 := by have := HLE.out; omega
      clear hcell hc hA' hAb hun ho1 ho2 hsp
      go_upto_region 6 with fail
      go_cut [8, 9] from 23 to 31 (fun sx sb wx => ∃ (N : Nat) (A : Option Addr) (n d : Nat), sx = .pointer (some ⟨N, 0, none⟩) ∧ sb = .bool o1.isSome ∧ Hid (wr.heap.size ≤ N) ∧ Hid (wx.heap[N]? = some (.cells #[.int .i64 (o1.getD zeroPl).u, .int .i64 (o1.getD zeroPl).s, .int .i64 (o1.getD zeroPl).c, .slice A n d] 37 (0, 0))) ∧ Hid (PcsAt wx (.slice A n d) (o1.getD zeroPl).ps) ∧ Hid (Below wr.heap.size wr wx))
      case first =>
        have hkd : Below wr.heap.size wr wr.drew := (Below.refl _ _).drew
        refine wp_region_N (S1 := fun w' => w'.cell? ⟨P, 0, none⟩ = some (.int .i64 f1) ∧ w'.cell? ⟨P, 1, none⟩ = some (.int .u32 m1) ∧ w'.cell? ⟨P, 2, none⟩ = some v1 ∧ w'.cell? ⟨lb', loff + i, none⟩ = some (.int .i64 un)) (S2 := fun _ => True) (N := fun _ => true) (by kernel_rfl) ?_
        change wpAnyN _ _ _ _ _ _ _ 12 (Array.replicate 12 false) _ _
        refine wpAnyN_take false (i := 0) (oi := ⟨some 24, _, _, _, _, _⟩) (v := ?_) rfl (by kernel_rfl) (by kernel_rfl) (by kernel_rfl) (fun _ _ _ h => h) (Or.inl ⟨by kernel_rfl, ?_⟩) ⟨HSE1.out _ hkd, fun h => (by cases h)⟩ ?_
        rotate_left
        · (intro w hSw; obtain ⟨hSa, hSb⟩ := hSw; clear hSb; (try dsimp only at hSa); go_simp; try with_reducible rfl)
        (try simp only [Act.put, List.setIfInBounds_toArray, List.set_cons_zero, List.set_cons_succ])
        refine wpAnyN_take false (i := 1) (oi := ⟨some 25, _, _, _, _, _⟩) (v := ?_) rfl (by kernel_rfl) (by kernel_rfl) (by kernel_rfl) (fun _ _ _ h => h) (Or.inl ⟨by kernel_rfl, ?_⟩) ⟨HSE1.out _ hkd, fun h => (by cases h)⟩ ?_
        rotate_left
        · (intro w hSw; obtain ⟨hSa, hSb⟩ := hSw; clear hSb; (try dsimp only at hSa); go_simp; try with_reducible rfl)
        (try simp only [Act.put, List.setIfInBounds_toArray, List.set_cons_zero, List.set_cons_succ])
        refine wpAnyN_take false (i := 2) (oi := ⟨some 26, _, _, _, _, _⟩) (v := ?_) rfl (by kernel_rfl) (by kernel_rfl) (by kernel_rfl) (fun _ _ _ h => h) (Or.inl ⟨by kernel_rfl, ?_⟩) ⟨HSE1.out _ hkd, fun h => (by cases h)⟩ ?_
        rotate_left
        · (intro w hSw; obtain ⟨hSa, hSb⟩ := hSw; clear hSb; (try dsimp only at hSa); go_simp; try with_reducible rfl)
        (try simp only [Act.put, List.setIfInBounds_toArray, List.set_cons_zero, List.set_cons_succ])
        refine wpAnyN_take false (i := 3) (oi := ⟨some 27, _, _, _, _, _⟩) (v := ?_) rfl (by kernel_rfl) (by kernel_rfl) (by kernel_rfl) (fun _ _ _ h => h) (Or.inl ⟨by kernel_rfl, ?_⟩) ⟨HSE1.out _ hkd, fun h => (by cases h)⟩ ?_
        rotate_left
        · (intro w hSw; obtain ⟨hSa, hSb⟩ := hSw; clear hSb; (try dsimp only at hSa); go_simp; try with_reducible rfl)
        (try simp only [Act.put, List.setIfInBounds_toArray, List.set_cons_zero, List.set_cons_succ])
        refine wpAnyN_take false (i := 4) (oi := ⟨some 28, _, _, _, _, _⟩) (v := ?_) rfl (by kernel_rfl) (by kernel_rfl) (by kernel_rfl) (fun _ _ _ h => h) (Or.inl ⟨by kernel_rfl, ?_⟩) ⟨HSE1.out _ hkd, fun h => (by cases h)⟩ ?_
        rotate_left
        · (intro w hSw; obtain ⟨hSa, hSb⟩ := hSw; clear hSb; (try dsimp only at hSa); go_simp; try with_reducible rfl)
        (try simp only [Act.put, List.setIfInBounds_toArray, List.set_cons_zero, List.set_cons_succ])
        refine wpAnyN_two (i := 5) (j := 9) (by kernel_rfl) rfl rfl (by kernel_rfl) (by kernel_rfl) ?_ ?_
        · intro K' hK
          (try simp only [Act.put, List.setIfInBounds_toArray, List.set_cons_zero, List.set_cons_succ])
          go_simp
          go_at_call 18; refine (HF1.out _ (HKW.out.trans (hkd.mono HKW.out.size))).mono ?_; rintro e wa ⟨va, rfl, hpa, hba⟩
          obtain ⟨A, c, rfl, hq1, hq2, hq3⟩ := hpa
          obtain ⟨n, hn⟩ : ∃ n, (o1.getD zeroPl).ps.length = n := ⟨_, rfl⟩
          rw [hn]
          have hka := hkd.trans (hba.mono hkd.size)
          refine hK.out _ _ (HSE1.out _ hka) (fun _ _ => trivial) ?_
          clear hK K'
          (try simp only [Act.put, List.setIfInBounds_toArray, List.set_cons_zero, List.set_cons_succ])
          refine wpAnyN_take false (i := 6) (oi := ⟨some 23, _, _, _, _, _⟩) (v := ?_) rfl (by kernel_rfl) (by kernel_rfl) (by kernel_rfl) (fun _ _ _ h => h) (Or.inl ⟨by kernel_rfl, ?_⟩) ⟨HSE1.out _ hka, fun h => (by cases h)⟩ ?_
          rotate_left
          · (intro w hSw; obtain ⟨hSa, hSb⟩ := hSw; clear hSb; (try dsimp only at hSa); go_simp; try with_reducible rfl)
          (try simp only [Act.put, List.setIfInBounds_toArray, List.set_cons_zero, List.set_cons_succ])
          refine wpAnyN_take false (i := 7) (oi := ⟨some 30, _, _, _, _, _⟩) (v := ?_) rfl (by kernel_rfl) (by kernel_rfl) (by kernel_rfl) (fun _ _ _ h => h) (Or.inl ⟨by kernel_rfl, ?_⟩) ⟨HSE1.out _ hka, fun h => (by cases h)⟩ ?_
          rotate_left
          · (intro w hSw; obtain ⟨hSa, hSb⟩ := hSw; clear hSb; (try dsimp only at hSa); go_simp; try with_reducible rfl)
          (try simp only [Act.put, List.setIfInBounds_toArray, List.set_cons_zero, List.set_cons_succ])
          refine wpAnyN_take false (i := 8) (oi := ⟨some 31, _, _, _, _, _⟩) (v := ?_) rfl (by kernel_rfl) (by kernel_rfl) (by kernel_rfl) (fun _ _ _ h => h) (Or.inl ⟨by kernel_rfl, ?_⟩) ⟨HSE1.out _ hka, fun h => (by cases h)⟩ ?_
          rotate_left
          · (intro w hSw; obtain ⟨hSa, hSb⟩ := hSw; clear hSb; (try dsimp only at hSa); go_simp; try with_reducible rfl)
          (try simp only [Act.put, List.setIfInBounds_toArray, List.set_cons_zero, List.set_cons_succ])
          refine wpAnyN_step (i := 9) (by kernel_rfl) rfl (by kernel_rfl) ?_
          intro K' hK
          (try simp only [Act.put, List.setIfInBounds_toArray, List.set_cons_zero, List.set_cons_succ])
          obtain ⟨wz, N, hwz, hN, hNl, hbz, hnz⟩ := box_any wa #[.int .i64 0, .int .i64 0, .int .i64 0, .slice none 0 0] 37
          go_simp
          have hkz := hka.trans (hbz.mono hka.size)
          have hNlo : wr.heap.size ≤ N := by have := hka.size; omega
          refine hK.out _ _ (HSE1.out _ hkz) (fun _ _ => trivial) ?_
          clear hK K'
          (try simp only [Act.put, List.setIfInBounds_toArray, List.set_cons_zero, List.set_cons_succ])
          have hpa : PcsIn (fun b => b < w2.heap.size) wa (.slice A n c) (o1.getD zeroPl).ps := ⟨A, c, by rw [hn], hq1, hq2, hq3⟩
          have hpz : PcsIn (fun b => b ≠ N) wz (.slice A n c) (o1.getD zeroPl).ps := (hpa.mono fun b _ hg => by have := HKW.out.size; omega).keep hbz
          refine wpAnyN_step (i := 10) (by kernel_rfl) rfl (by kernel_rfl) ?_
          intro K' hK
          (try simp only [Act.put, List.setIfInBounds_toArray, List.set_cons_zero, List.set_cons_succ])
          refine wp_store_row _ _ _ rfl N #[.int .i64 (o1.getD zeroPl).u, .int .i64 (o1.getD zeroPl).s, .int .i64 (o1.getD zeroPl).c, .slice A n c] (by simp [Act.eval, Act.put]) (by simp [Act.eval, Act.put]) 37 #[.int .i64 0, .int .i64 0, .int .i64 0, .slice none 0 0] hnz (Try.sizePl _ _ _ _) rfl (one4 _ _ _ _ _ _) ?_
          have hkF : Below wr.heap.size wr (wz.setRow N #[.int .i64 (o1.getD zeroPl).u, .int .i64 (o1.getD zeroPl).s, .int .i64 (o1.getD zeroPl).c, .slice A n c]) := below_row16 hkz hNlo _
          refine hK.out _ _ (HSE1.out _ hkF) (fun _ _ => trivial) ?_
          clear hK K'
          (try simp only [Act.put, List.setIfInBounds_toArray, List.set_cons_zero, List.set_cons_succ])
          refine wpAnyN_take false (i := 11) (oi := ⟨some 9, _, _, _, _, _⟩) (v := ?_) rfl (by kernel_rfl) (by kernel_rfl) (by kernel_rfl) (fun _ _ _ h => h) (Or.inl ⟨by kernel_rfl, ?_⟩) ⟨HSE1.out _ hkF, fun h => (by cases h)⟩ ?_
          rotate_left
          · (intro w hSw; obtain ⟨hSa, hSb⟩ := hSw; clear hSb; (try dsimp only at hSa); go_simp; try with_reducible rfl)
          (try simp only [Act.put, List.setIfInBounds_toArray, List.set_cons_zero, List.set_cons_succ])
          refine wpAnyN_done (by kernel_rfl) ?_
          go_wp2_with fail
          go_meet
          exact ⟨N, A, n, c, rfl, rfl, Lib.hid hNlo, Lib.hid (setRow_heap _ _ _ _ _ _ hnz), Lib.hid (PcsIn.setRow hpz (.inl fun h => h rfl)).any, Lib.hid hkF⟩
        · intro K' hK
          (try simp only [Act.put, List.setIfInBounds_toArray, List.set_cons_zero, List.set_cons_succ])
          obtain ⟨wy, N, hwz, hN, hNl, hby, hny⟩ := box_any wr.drew #[.int .i64 0, .int .i64 0, .int .i64 0, .slice none 0 0] 37
          go_simp
          have hky := hkd.trans (hby.mono hkd.size)
          have hNlo : wr.heap.size ≤ N := by have := hkd.size; omega
          refine hK.out _ _ (HSE1.out _ hky) (fun _ _ => trivial) ?_
          clear hK K'
          (try simp only [Act.put, List.setIfInBounds_toArray, List.set_cons_zero, List.set_cons_succ])
          refine wpAnyN_step (i := 5) (by kernel_rfl) rfl (by kernel_rfl) ?_
          intro K' hK
          (try simp only [Act.put, List.setIfInBounds_toArray, List.set_cons_zero, List.set_cons_succ])
          go_simp
          go_at_call 18; refine (HF1.out _ (HKW.out.trans (hky.mono HKW.out.size))).mono ?_; rintro e wa ⟨va, rfl, hpa, hba⟩
          obtain ⟨A, c, rfl, hq1, hq2, hq3⟩ := hpa
          obtain ⟨n, hn⟩ : ∃ n, (o1.getD zeroPl).ps.length = n := ⟨_, rfl⟩
          rw [hn]
          have hkz := hky.trans (hba.mono hky.size)
          refine hK.out _ _ (HSE1.out _ hkz) (fun _ _ => trivial) ?_
          clear hK K'
          (try simp only [Act.put, List.setIfInBounds_toArray, List.set_cons_zero, List.set_cons_succ])
          refine wpAnyN_take false (i := 6) (oi := ⟨some 23, _, _, _, _, _⟩) (v := ?_) rfl (by kernel_rfl) (by kernel_rfl) (by kernel_rfl) (fun _ _ _ h => h) (Or.inl ⟨by kernel_rfl, ?_⟩) ⟨HSE1.out _ hkz, fun h => (by cases h)⟩ ?_
          rotate_left
          · (intro w hSw; obtain ⟨hSa, hSb⟩ := hSw; clear hSb; (try dsimp only at hSa); go_simp; try with_reducible rfl)
          (try simp only [Act.put, List.setIfInBounds_toArray, List.set_cons_zero, List.set_cons_succ])
          refine wpAnyN_take false (i := 7) (oi := ⟨some 30, _, _, _, _, _⟩) (v := ?_) rfl (by kernel_rfl) (by kernel_rfl) (by kernel_rfl) (fun _ _ _ h => h) (Or.inl ⟨by kernel_rfl, ?_⟩) ⟨HSE1.out _ hkz, fun h => (by cases h)⟩ ?_
          rotate_left
          · (intro w hSw; obtain ⟨hSa, hSb⟩ := hSw; clear hSb; (try dsimp only at hSa); go_simp; try with_reducible rfl)
          (try simp only [Act.put, List.setIfInBounds_toArray, List.set_cons_zero, List.set_cons_succ])
          refine wpAnyN_take false (i := 8) (oi := ⟨some 31, _, _, _, _, _⟩) (v := ?_) rfl (by kernel_rfl) (by kernel_rfl) (by kernel_rfl) (fun _ _ _ h => h) (Or.inl ⟨by kernel_rfl, ?_⟩) ⟨HSE1.out _ hkz, fun h => (by cases h)⟩ ?_
          rotate_left
          · (intro w hSw; obtain ⟨hSa, hSb⟩ := hSw; clear hSb; (try dsimp only at hSa); go_simp; try with_reducible rfl)
          (try simp only [Act.put, List.setIfInBounds_toArray, List.set_cons_zero, List.set_cons_succ])
          obtain ⟨wz, hwz2⟩ : ∃ wz, wz = wa := ⟨_, rfl⟩
          subst hwz2
          have hnz := keep_block hny hba
          have hpa : PcsIn (fun b => b < w2.heap.size) wz (.slice A n c) (o1.getD zeroPl).ps := ⟨A, c, by rw [hn], hq1, hq2, hq3⟩
          have hpz : PcsIn (fun b => b ≠ N) wz (.slice A n c) (o1.getD zeroPl).ps := hpa.mono fun b _ hg => by have := HKW.out.size; omega
          refine wpAnyN_step (i := 10) (by kernel_rfl) rfl (by kernel_rfl) ?_
          intro K' hK
          (try simp only [Act.put, List.setIfInBounds_toArray, List.set_cons_zero, List.set_cons_succ])
          refine wp_store_row _ _ _ rfl N #[.int .i64 (o1.getD zeroPl).u, .int .i64 (o1.getD zeroPl).s, .int .i64 (o1.getD zeroPl).c, .slice A n c] (by simp [Act.eval, Act.put]) (by simp [Act.eval, Act.put]) 37 #[.int .i64 0, .int .i64 0, .int .i64 0, .slice none 0 0] hnz (Try.sizePl _ _ _ _) rfl (one4 _ _ _ _ _ _) ?_
          have hkF : Below wr.heap.size wr (wz.setRow N #[.int .i64 (o1.getD zeroPl).u, .int .i64 (o1.getD zeroPl).s, .int .i64 (o1.getD zeroPl).c, .slice A n c]) := below_row16 hkz hNlo _
          refine hK.out _ _ (HSE1.out _ hkF) (fun _ _ => trivial) ?_
          clear hK K'
          (try simp only [Act.put, List.setIfInBounds_toArray, List.set_cons_zero, List.set_cons_succ])
          refine wpAnyN_take false (i := 11) (oi := ⟨some 9, _, _, _, _, _⟩) (v := ?_) rfl (by kernel_rfl) (by kernel_rfl) (by kernel_rfl) (fun _ _ _ h => h) (Or.inl ⟨by kernel_rfl, ?_⟩) ⟨HSE1.out _ hkF, fun h => (by cases h)⟩ ?_
          rotate_left
          · (intro w hSw; obtain ⟨hSa, hSb⟩ := hSw; clear hSb; (try dsimp only at hSa); go_simp; try with_reducible rfl)
          (try simp only [Act.put, List.setIfInBounds_toArray, List.set_cons_zero, List.set_cons_succ])
          refine wpAnyN_done (by kernel_rfl) ?_
          go_wp2_with fail
          go_meet
          exact ⟨N, A, n, c, rfl, rfl, Lib.hid hNlo, Lib.hid (setRow_heap _ _ _ _ _ _ hnz), Lib.hid (PcsIn.setRow hpz (.inl fun h => h rfl)).any, Lib.hid hkF⟩
      case rest =>
        obtain ⟨N1, A1, n1, d1, rfl, rfl, HNL1, HX1, HPX1, HKX⟩ := hcut
        obtain ⟨wX, hwX⟩ : ∃ w, w = wc := ⟨_, rfl⟩
        subst hwX
        have HKX2 : Hid (Below w2.heap.size w2 wX) := Lib.hid (HKW.out.trans (HKX.out.mono HKW.out.size))
        have HSE2 : Hid (∀ W, Below wX.heap.size wX W → W.cell? ⟨Q, 0, none⟩ = some (.int .i64 f2) ∧ W.cell? ⟨Q, 1, none⟩ = some (.int .u32 m2) ∧ W.cell? ⟨Q, 2, none⟩ = some v2 ∧ W.cell? ⟨lb', loff + i, none⟩ = some (.int .i64 un)) := Lib.hid (fun W hk => by
          obtain ⟨a, b, c⟩ := HSQ.out W (HKX2.out.trans (hk.mono HKX2.out.size))
          exact ⟨a, b, c, HCE.out W (HKX.out.trans (hk.mono HKX.out.size))⟩)
        go_upto_region 7 with fail
        go_cut [10, 11] from 32 to 40 (fun sx sb wx => ∃ (N : Nat) (A : Option Addr) (n d : Nat), sx = .pointer (some ⟨N, 0, none⟩) ∧ sb = .bool o2.isSome ∧ Hid (wX.heap.size ≤ N) ∧ Hid (wx.heap[N]? = some (.cells #[.int .i64 (o2.getD zeroPl).u, .int .i64 (o2.getD zeroPl).s, .int .i64 (o2.getD zeroPl).c, .slice A n d] 37 (0, 0))) ∧ Hid (PcsAt wx (.slice A n d) (o2.getD zeroPl).ps) ∧ Hid (Below wX.heap.size wX wx))
        case first =>
          have hkd : Below wX.heap.size wX wX.drew := (Below.refl _ _).drew
          refine wp_region_N (S1 := fun w' => w'.cell? ⟨Q, 0, none⟩ = some (.int .i64 f2) ∧ w'.cell? ⟨Q, 1, none⟩ = some (.int .u32 m2) ∧ w'.cell? ⟨Q, 2, none⟩ = some v2 ∧ w'.cell? ⟨lb', loff + i, none⟩ = some (.int .i64 un)) (S2 := fun _ => True) (N := fun _ => true) (by kernel_rfl) ?_
          change wpAnyN _ _ _ _ _ _ _ 12 (Array.replicate 12 false) _ _
          refine wpAnyN_take false (i := 0) (oi := ⟨some 33, _, _, _, _, _⟩) (v := ?_) rfl (by kernel_rfl) (by kernel_rfl) (by kernel_rfl) (fun _ _ _ h => h) (Or.inl ⟨by kernel_rfl, ?_⟩) ⟨HSE2.out _ hkd, fun h => (by cases h)⟩ ?_
          rotate_left
          · (intro w hSw; obtain ⟨hSa, hSb⟩ := hSw; clear hSb; (try dsimp only at hSa); go_simp; try with_reducible rfl)
          (try simp only [Act.put, List.setIfInBounds_toArray, List.set_cons_zero, List.set_cons_succ])
          refine wpAnyN_take false (i := 1) (oi := ⟨some 34, _, _, _, _, _⟩) (v := ?_) rfl (by kernel_rfl) (by kernel_rfl) (by kernel_rfl) (fun _ _ _ h => h) (Or.inl ⟨by kernel_rfl, ?_⟩) ⟨HSE2.out _ hkd, fun h => (by cases h)⟩ ?_
          rotate_left
          · (intro w hSw; obtain ⟨hSa, hSb⟩ := hSw; clear hSb; (try dsimp only at hSa); go_simp; try with_reducible rfl)
          (try simp only [Act.put, List.setIfInBounds_toArray, List.set_cons_zero, List.set_cons_succ])
          refine wpAnyN_take false (i := 2) (oi := ⟨some 35, _, _, _, _, _⟩) (v := ?_) rfl (by kernel_rfl) (by kernel_rfl) (by kernel_rfl) (fun _ _ _ h => h) (Or.inl ⟨by kernel_rfl, ?_⟩) ⟨HSE2.out _ hkd, fun h => (by cases h)⟩ ?_
          rotate_left
          · (intro w hSw; obtain ⟨hSa, hSb⟩ := hSw; clear hSb; (try dsimp only at hSa); go_simp; try with_reducible rfl)
          (try simp only [Act.put, List.setIfInBounds_toArray, List.set_cons_zero, List.set_cons_succ])
          refine wpAnyN_take false (i := 3) (oi := ⟨some 36, _, _, _, _, _⟩) (v := ?_) rfl (by kernel_rfl) (by kernel_rfl) (by kernel_rfl) (fun _ _ _ h => h) (Or.inl ⟨by kernel_rfl, ?_⟩) ⟨HSE2.out _ hkd, fun h => (by cases h)⟩ ?_
          rotate_left
          · (intro w hSw; obtain ⟨hSa, hSb⟩ := hSw; clear hSb; (try dsimp only at hSa); go_simp; try with_reducible rfl)
          (try simp only [Act.put, List.setIfInBounds_toArray, List.set_cons_zero, List.set_cons_succ])
          refine wpAnyN_take false (i := 4) (oi := ⟨some 37, _, _, _, _, _⟩) (v := ?_) rfl (by kernel_rfl) (by kernel_rfl) (by kernel_rfl) (fun _ _ _ h => h) (Or.inl ⟨by kernel_rfl, ?_⟩) ⟨HSE2.out _ hkd, fun h => (by cases h)⟩ ?_
          rotate_left
          · (intro w hSw; obtain ⟨hSa, hSb⟩ := hSw; clear hSb; (try dsimp only at hSa); go_simp; try with_reducible rfl)
          (try simp only [Act.put, List.setIfInBounds_toArray, List.set_cons_zero, List.set_cons_succ])
          refine wpAnyN_two (i := 5) (j := 9) (by kernel_rfl) rfl rfl (by kernel_rfl) (by kernel_rfl) ?_ ?_
          · intro K' hK
            (try simp only [Act.put, List.setIfInBounds_toArray, List.set_cons_zero, List.set_cons_succ])
            go_simp
            go_at_call 18; refine (HF2.out _ (HKX2.out.trans (hkd.mono HKX2.out.size))).mono ?_; rintro e wa ⟨va, rfl, hpa, hba⟩
            obtain ⟨A, c, rfl, hq1, hq2, hq3⟩ := hpa
            obtain ⟨n, hn⟩ : ∃ n, (o2.getD zeroPl).ps.length = n := ⟨_, rfl⟩
            rw [hn]
            have hka := hkd.trans (hba.mono hkd.size)
            refine hK.out _ _ (HSE2.out _ hka) (fun _ _ => trivial) ?_
            clear hK K'
            (try simp only [Act.put, List.setIfInBounds_toArray, List.set_cons_zero, List.set_cons_succ])
            refine wpAnyN_take false (i := 6) (oi := ⟨some 32, _, _, _, _, _⟩) (v := ?_) rfl (by kernel_rfl) (by kernel_rfl) (by kernel_rfl) (fun _ _ _ h => h) (Or.inl ⟨by kernel_rfl, ?_⟩) ⟨HSE2.out _ hka, fun h => (by cases h)⟩ ?_
            rotate_left
            · (intro w hSw; obtain ⟨hSa, hSb⟩ := hSw; clear hSb; (try dsimp only at hSa); go_simp; try with_reducible rfl)
            (try simp only [Act.put, List.setIfInBounds_toArray, List.set_cons_zero, List.set_cons_succ])
            refine wpAnyN_take false (i := 7) (oi := ⟨some 39, _, _, _, _, _⟩) (v := ?_) rfl (by kernel_rfl) (by kernel_rfl) (by kernel_rfl) (fun _ _ _ h => h) (Or.inl ⟨by kernel_rfl, ?_⟩) ⟨HSE2.out _ hka, fun h => (by cases h)⟩ ?_
            rotate_left
            · (intro w hSw; obtain ⟨hSa, hSb⟩ := hSw; clear hSb; (try dsimp only at hSa); go_simp; try with_reducible rfl)
            (try simp only [Act.put, List.setIfInBounds_toArray, List.set_cons_zero, List.set_cons_succ])
            refine wpAnyN_take false (i := 8) (oi := ⟨some 40, _, _, _, _, _⟩) (v := ?_) rfl (by kernel_rfl) (by kernel_rfl) (by kernel_rfl) (fun _ _ _ h => h) (Or.inl ⟨by kernel_rfl, ?_⟩) ⟨HSE2.out _ hka, fun h => (by cases h)⟩ ?_
            rotate_left
            · (intro w hSw; obtain ⟨hSa, hSb⟩ := hSw; clear hSb; (try dsimp only at hSa); go_simp; try with_reducible rfl)
            (try simp only [Act.put, List.setIfInBounds_toArray, List.set_cons_zero, List.set_cons_succ])
            refine wpAnyN_step (i := 9) (by kernel_rfl) rfl (by kernel_rfl) ?_
            intro K' hK
            (try simp only [Act.put, List.setIfInBounds_toArray, List.set_cons_zero, List.set_cons_succ])
            obtain ⟨wz, N, hwz, hN, hNl, hbz, hnz⟩ := box_any wa #[.int .i64 0, .int .i64 0, .int .i64 0, .slice none 0 0] 37
            go_simp
            have hkz := hka.trans (hbz.mono hka.size)
            have hNlo : wX.heap.size ≤ N := by have := hka.size; omega
            refine hK.out _ _ (HSE2.out _ hkz) (fun _ _ => trivial) ?_
            clear hK K'
            (try simp only [Act.put, List.setIfInBounds_toArray, List.set_cons_zero, List.set_cons_succ])
            have hpa : PcsIn (fun b => b < w2.heap.size) wa (.slice A n c) (o2.getD zeroPl).ps := ⟨A, c, by rw [hn], hq1, hq2, hq3⟩
            have hpz : PcsIn (fun b => b ≠ N) wz (.slice A n c) (o2.getD zeroPl).ps := (hpa.mono fun b _ hg => by have := HKX2.out.size; omega).keep hbz
            refine wpAnyN_step (i := 10) (by kernel_rfl) rfl (by kernel_rfl) ?_
            intro K' hK
            (try simp only [Act.put, List.setIfInBounds_toArray, List.set_cons_zero, List.set_cons_succ])
            refine wp_store_row _ _ _ rfl N #[.int .i64 (o2.getD zeroPl).u, .int .i64 (o2.getD zeroPl).s, .int .i64 (o2.getD zeroPl).c, .slice A n c] (by simp [Act.eval, Act.put]) (by simp [Act.eval, Act.put]) 37 #[.int .i64 0, .int .i64 0, .int .i64 0, .slice none 0 0] hnz (Try.sizePl _ _ _ _) rfl (one4 _ _ _ _ _ _) ?_
            have hkF : Below wX.heap.size wX (wz.setRow N #[.int .i64 (o2.getD zeroPl).u, .int .i64 (o2.getD zeroPl).s, .int .i64 (o2.getD zeroPl).c, .slice A n c]) := below_row16 hkz hNlo _
            refine hK.out _ _ (HSE2.out _ hkF) (fun _ _ => trivial) ?_
            clear hK K'
            (try simp only [Act.put, List.setIfInBounds_toArray, List.set_cons_zero, List.set_cons_succ])
            refine wpAnyN_take false (i := 11) (oi := ⟨some 11, _, _, _, _, _⟩) (v := ?_) rfl (by kernel_rfl) (by kernel_rfl) (by kernel_rfl) (fun _ _ _ h => h) (Or.inl ⟨by kernel_rfl, ?_⟩) ⟨HSE2.out _ hkF, fun h => (by cases h)⟩ ?_
            rotate_left
            · (intro w hSw; obtain ⟨hSa, hSb⟩ := hSw; clear hSb; (try dsimp only at hSa); go_simp; try with_reducible rfl)
            (try simp only [Act.put, List.setIfInBounds_toArray, List.set_cons_zero, List.set_cons_succ])
            refine wpAnyN_done (by kernel_rfl) ?_
            go_wp2_with fail
            go_meet
            exact ⟨N, A, n, c, rfl, rfl, Lib.hid hNlo, Lib.hid (setRow_heap _ _ _ _ _ _ hnz), Lib.hid (PcsIn.setRow hpz (.inl fun h => h rfl)).any, Lib.hid hkF⟩
          · intro K' hK
            (try simp only [Act.put, List.setIfInBounds_toArray, List.set_cons_zero, List.set_cons_succ])
            obtain ⟨wy, N, hwz, hN, hNl, hby, hny⟩ := box_any wX.drew #[.int .i64 0, .int .i64 0, .int .i64 0, .slice none 0 0] 37
            go_simp
            have hky := hkd.trans (hby.mono hkd.size)
            have hNlo : wX.heap.size ≤ N := by have := hkd.size; omega
            refine hK.out _ _ (HSE2.out _ hky) (fun _ _ => trivial) ?_
            clear hK K'
            (try simp only [Act.put, List.setIfInBounds_toArray, List.set_cons_zero, List.set_cons_succ])
            refine wpAnyN_step (i := 5) (by kernel_rfl) rfl (by kernel_rfl) ?_
            intro K' hK
            (try simp only [Act.put, List.setIfInBounds_toArray, List.set_cons_zero, List.set_cons_succ])
            go_simp
            go_at_call 18; refine (HF2.out _ (HKX2.out.trans (hky.mono HKX2.out.size))).mono ?_; rintro e wa ⟨va, rfl, hpa, hba⟩
            obtain ⟨A, c, rfl, hq1, hq2, hq3⟩ := hpa
            obtain ⟨n, hn⟩ : ∃ n, (o2.getD zeroPl).ps.length = n := ⟨_, rfl⟩
            rw [hn]
            have hkz := hky.trans (hba.mono hky.size)
            refine hK.out _ _ (HSE2.out _ hkz) (fun _ _ => trivial) ?_
            clear hK K'
            (try simp only [Act.put, List.setIfInBounds_toArray, List.set_cons_zero, List.set_cons_succ])
            refine wpAnyN_take false (i := 6) (oi := ⟨some 32, _, _, _, _, _⟩) (v := ?_) rfl (by kernel_rfl) (by kernel_rfl) (by kernel_rfl) (fun _ _ _ h => h) (Or.inl ⟨by kernel_rfl, ?_⟩) ⟨HSE2.out _ hkz, fun h => (by cases h)⟩ ?_
            rotate_left
            · (intro w hSw; obtain ⟨hSa, hSb⟩ := hSw; clear hSb; (try dsimp only at hSa); go_simp; try with_reducible rfl)
            (try simp only [Act.put, List.setIfInBounds_toArray, List.set_cons_zero, List.set_cons_succ])
            refine wpAnyN_take false (i := 7) (oi := ⟨some 39, _, _, _, _, _⟩) (v := ?_) rfl (by kernel_rfl) (by kernel_rfl) (by kernel_rfl) (fun _ _ _ h => h) (Or.inl ⟨by kernel_rfl, ?_⟩) ⟨HSE2.out _ hkz, fun h => (by cases h)⟩ ?_
            rotate_left
            · (intro w hSw; obtain ⟨hSa, hSb⟩ := hSw; clear hSb; (try dsimp only at hSa); go_simp; try with_reducible rfl)
            (try simp only [Act.put, List.setIfInBounds_toArray, List.set_cons_zero, List.set_cons_succ])
            refine wpAnyN_take false (i := 8) (oi := ⟨some 40, _, _, _, _, _⟩) (v := ?_) rfl (by kernel_rfl) (by kernel_rfl) (by kernel_rfl) (fun _ _ _ h => h) (Or.inl ⟨by kernel_rfl, ?_⟩) ⟨HSE2.out _ hkz, fun h => (by cases h)⟩ ?_
            rotate_left
            · (intro w hSw; obtain ⟨hSa, hSb⟩ := hSw; clear hSb; (try dsimp only at hSa); go_simp; try with_reducible rfl)
            (try simp only [Act.put, List.setIfInBounds_toArray, List.set_cons_zero, List.set_cons_succ])
            obtain ⟨wz, hwz2⟩ : ∃ wz, wz = wa := ⟨_, rfl⟩
            subst hwz2
            have hnz := keep_block hny hba
            have hpa : PcsIn (fun b => b < w2.heap.size) wz (.slice A n c) (o2.getD zeroPl).ps := ⟨A, c, by rw [hn], hq1, hq2, hq3⟩
            have hpz : PcsIn (fun b => b ≠ N) wz (.slice A n c) (o2.getD zeroPl).ps := hpa.mono fun b _ hg => by have := HKX2.out.size; omega
            refine wpAnyN_step (i := 10) (by kernel_rfl) rfl (by kernel_rfl) ?_
            intro K' hK
            (try simp only [Act.put, List.setIfInBounds_toArray, List.set_cons_zero, List.set_cons_succ])
            refine wp_store_row _ _ _ rfl N #[.int .i64 (o2.getD zeroPl).u, .int .i64 (o2.getD zeroPl).s, .int .i64 (o2.getD zeroPl).c, .slice A n c] (by simp [Act.eval, Act.put]) (by simp [Act.eval, Act.put]) 37 #[.int .i64 0, .int .i64 0, .int .i64 0, .slice none 0 0] hnz (Try.sizePl _ _ _ _) rfl (one4 _ _ _ _ _ _) ?_
            have hkF : Below wX.heap.size wX (wz.setRow N #[.int .i64 (o2.getD zeroPl).u, .int .i64 (o2.getD zeroPl).s, .int .i64 (o2.getD zeroPl).c, .slice A n c]) := below_row16 hkz hNlo _
            refine hK.out _ _ (HSE2.out _ hkF) (fun _ _ => trivial) ?_
            clear hK K'
            (try simp only [Act.put, List.setIfInBounds_toArray, List.set_cons_zero, List.set_cons_succ])
            refine wpAnyN_take false (i := 11) (oi := ⟨some 11, _, _, _, _, _⟩) (v := ?_) rfl (by kernel_rfl) (by kernel_rfl) (by kernel_rfl) (fun _ _ _ h => h) (Or.inl ⟨by kernel_rfl, ?_⟩) ⟨HSE2.out _ hkF, fun h => (by cases h)⟩ ?_
            rotate_left
            · (intro w hSw; obtain ⟨hSa, hSb⟩ := hSw; clear hSb; (try dsimp only at hSa); go_simp; try with_reducible rfl)
            (try simp only [Act.put, List.setIfInBounds_toArray, List.set_cons_zero, List.set_cons_succ])
            refine wpAnyN_done (by kernel_rfl) ?_
            go_wp2_with fail
            go_meet
            exact ⟨N, A, n, c, rfl, rfl, Lib.hid hNlo, Lib.hid (setRow_heap _ _ _ _ _ _ hnz), Lib.hid (PcsIn.setRow hpz (.inl fun h => h rfl)).any, Lib.hid hkF⟩
        case rest =>
          obtain ⟨N2, A2, n2, d2, rfl, rfl, HNL2, HX2, HPX2, HKY⟩ := hcut
          obtain ⟨wY, hwY⟩ : ∃ w, w = wc := ⟨_, rfl⟩
          subst hwY
          have HKR : Hid (Below wr.heap.size wr wY) := Lib.hid (HKX.out.trans (HKY.out.mono HKX.out.size))
          have HX1Y := Lib.hid (keep_block HX1.out HKY.out)
          have HP1Y := Lib.hid (HPX1.out.keep HKY.out)
          have HPO1 : Hid (PlOk (o1.getD zeroPl) ∧ (o1.getD zeroPl).ps.length ≤ 1000) := Lib.hid (by have := placeU_ok HLL.out.1 un; unfold placeU at this; rwa [HO1.out] at this)
          have HPO2 : Hid (PlOk (o2.getD zeroPl) ∧ (o2.getD zeroPl).ps.length ≤ 1000) := Lib.hid (by have := placeU_ok HLL.out.2 un; unfold placeU at this; rwa [HO2.out] at this)
          have HSUC2 : Hid (shiftP la lb (i + 1) = sp + shiftK (o1.getD zeroPl) (o2.getD zeroPl) 16) := Lib.hid (by
            rw [HSUC.out, shiftK_all]
            unfold placeU
            rw [HO1.out, HO2.out])
          generalize o1.getD zeroPl = x at *
          generalize o2.getD zeroPl = y at *
          have HAX := Lib.hid (fun (c t : Nat) (ht : t < 64) W (hk : Below wY.heap.size wY W) => at_any (.slice A1 n1 d1) x (c : Int) t W (HP1Y.out.keep hk) HPO1.out.2 HPO1.out.1.2.2.2 ht)
          have HAY := Lib.hid (fun (c t : Nat) (ht : t < 64) W (hk : Below wY.heap.size wY W) => at_any (.slice A2 n2 d2) y (c : Int) t W (HPX2.out.keep hk) HPO2.out.2 HPO2.out.1.2.2.2 ht)
          unfold plA at HAX HAY
          obtain ⟨xu, hxu⟩ : ∃ u, x.u = u := ⟨_, rfl⟩
          obtain ⟨xs9, hxs⟩ : ∃ u, x.s = u := ⟨_, rfl⟩
          obtain ⟨xc, hxc⟩ : ∃ u, x.c = u := ⟨_, rfl⟩
          obtain ⟨yu, hyu⟩ : ∃ u, y.u = u := ⟨_, rfl⟩
          obtain ⟨ys, hys⟩ : ∃ u, y.s = u := ⟨_, rfl⟩
          obtain ⟨yc, hyc⟩ : ∃ u, y.c = u := ⟨_, rfl⟩
          rw [hxu, hxs, hxc] at HX1Y HAX
          rw [hyu, hys, hyc] at HX2 HAY
          have HSN : Hid (∀ W, Below wY.heap.size wY W → W.cell? ⟨N1, 0, none⟩ = some (.int .i64 xu) ∧ W.cell? ⟨N1, 1, none⟩ = some (.int .i64 xs9) ∧ W.cell? ⟨N1, 2, none⟩ = some (.int .i64 xc) ∧ W.cell? ⟨N1, 3, none⟩ = some (.slice A1 n1 d1) ∧ W.cell? ⟨N2, 0, none⟩ = some (.int .i64 yu) ∧ W.cell? ⟨N2, 1, none⟩ = some (.int .i64 ys) ∧ W.cell? ⟨N2, 2, none⟩ = some (.int .i64 yc) ∧ W.cell? ⟨N2, 3, none⟩ = some (.slice A2 n2 d2)) := Lib.hid (fun W hk => by
            obtain ⟨a0, a1, a2, a3⟩ := four_heads (keep_block HX1Y.out hk)
            obtain ⟨b0, b1, b2, b3⟩ := four_heads (keep_block HX2.out hk)
            exact ⟨a0, a1, a2, a3, b0, b1, b2, b3⟩)
          clear hxu hxs hxc hyu hys hyc
          go_wp2_with fail
          go_loopg [5, 12] 16 (fun gg s5 s12 wr => ∃ c : Nat, c ≤ 16 ∧ gg = 16 - c ∧ s12 = .int .i64 c ∧ s5 = .int .i64 (sp + shiftK x y c : Nat) ∧ Hid (Below wY.heap.size wY wr))
          case atStart => exact ⟨0, Nat.zero_le _, rfl, rfl, rfl, Lib.hid (Below.refl _ _)⟩
          case round =>
            obtain ⟨c, hc, hgg, rfl, rfl, HKC⟩ := hrel
            have HG2 := Lib.hid hgg
            clear hgg
            by_cases hltc : c < 16
            · have hcz : (c : Int) < 16 := by omega
              have hc0 : (0 : Int) ≤ (c : Int) := by omega
              have HKS : Hid (shiftK x y (c + 1) = shiftK x y c + shiftC x y c 64) := Lib.hid rfl
              have hkk := shiftK_le x y c
              obtain ⟨sk, hsk⟩ : ∃ n, shiftK x y c = n := ⟨_, rfl⟩
              rw [hsk] at HKS hkk ⊢
              clear hsk
              obtain ⟨s1, hs1⟩ : ∃ n, sp + sk = n := ⟨_, rfl⟩
              have HS1 := Lib.hid hs1
              have hs164 : s1 ≤ 2002000 := by omega
              rw [hs1]
              clear hs1
              go_wp2_with fail
              go_loopg [5, 13] 64 (fun gg s5 s13 wr => ∃ t : Nat, t ≤ 64 ∧ gg = 64 - t ∧ s13 = .int .i64 t ∧ s5 = .int .i64 (s1 + shiftC x y c t : Nat) ∧ Hid (Below wY.heap.size wY wr))
              case atStart => exact ⟨0, Nat.zero_le _, rfl, rfl, rfl, HKC⟩
              case round =>
                obtain ⟨t, ht, hgg, rfl, rfl, HKT⟩ := hrel
                have HG3 := Lib.hid hgg
                clear hgg
                by_cases hltt : t < 64
                · have htz : (t : Int) < 64 := by omega
                  have hkq := HKT.out.drew
                  have HAX := Lib.hid (HAX.out c t hltt)
                  have HAY := Lib.hid (HAY.out c t hltt)
                  have HTS : Hid (shiftC x y c (t + 1) = shiftC x y c t + (nOn x.ps (c : Int) t != nOn y.ps (c : Int) t).toNat) := Lib.hid rfl
                  have hct := shiftC_le x y c t
                  rw [nAt_on hc0] at HAX HAY
                  have hb1 : nOn x.ps (c : Int) t ≤ 1000 := by rw [← nAt_on hc0]; exact Nat.le_trans (nAt_le _ _ _) HPO1.out.2
                  have hb2 : nOn y.ps (c : Int) t ≤ 1000 := by rw [← nAt_on hc0]; exact Nat.le_trans (nAt_le _ _ _) HPO2.out.2
                  generalize nOn x.ps (c : Int) t = a1 at *
                  generalize nOn y.ps (c : Int) t = a2 at *
                  obtain ⟨st, hst⟩ : ∃ n, shiftC x y c t = n := ⟨_, rfl⟩
                  rw [hst] at HTS hct ⊢
                  clear hst
                  go_wp2_with fail
                  refine wp_region_held_drew (S := fun w' => w'.cell? ⟨N1, 0, none⟩ = some (.int .i64 xu) ∧ w'.cell? ⟨N1, 1, none⟩ = some (.int .i64 xs9) ∧ w'.cell? ⟨N1, 2, none⟩ = some (.int .i64 xc) ∧ w'.cell? ⟨N1, 3, none⟩ = some (.slice A1 n1 d1) ∧ w'.cell? ⟨N2, 0, none⟩ = some (.int .i64 yu) ∧ w'.cell? ⟨N2, 1, none⟩ = some (.int .i64 ys) ∧ w'.cell? ⟨N2, 2, none⟩ = some (.int .i64 yc) ∧ w'.cell? ⟨N2, 3, none⟩ = some (.slice A2 n2 d2)) (by kernel_rfl) ?_ (fun hHeld => ?_)
                  · exact HSN.out _ hkq
                  refine wpAnyH_take (i := 0) (oi := ⟨some 49, _, _, _, _, _⟩) (v := ?_) rfl (by kernel_rfl) (by kernel_rfl) (by kernel_rfl) (fun _ _ _ h => h) (Or.inl ⟨by kernel_rfl, ?_⟩) (by assumption) ?_
                  rotate_left
                  · (intro w hSw; (try dsimp only at hSw); go_simp; try with_reducible rfl)
                  (try simp only [Act.put, List.setIfInBounds_toArray, List.set_cons_zero, List.set_cons_succ])
                  refine wpAnyH_take (i := 1) (oi := ⟨some 50, _, _, _, _, _⟩) (v := ?_) rfl (by kernel_rfl) (by kernel_rfl) (by kernel_rfl) (fun _ _ _ h => h) (Or.inl ⟨by kernel_rfl, ?_⟩) (by assumption) ?_
                  rotate_left
                  · (intro w hSw; (try dsimp only at hSw); go_simp; try with_reducible rfl)
                  (try simp only [Act.put, List.setIfInBounds_toArray, List.set_cons_zero, List.set_cons_succ])
                  refine wpAnyH_take (i := 2) (oi := ⟨some 51, _, _, _, _, _⟩) (v := ?_) rfl (by kernel_rfl) (by kernel_rfl) (by kernel_rfl) (fun _ _ _ h => h) (Or.inl ⟨by kernel_rfl, ?_⟩) (by assumption) ?_
                  rotate_left
                  · (intro w hSw; (try dsimp only at hSw); go_simp; try with_reducible rfl)
                  (try simp only [Act.put, List.setIfInBounds_toArray, List.set_cons_zero, List.set_cons_succ])
                  refine wpAnyH_take (i := 4) (oi := ⟨some 53, _, _, _, _, _⟩) (v := ?_) rfl (by kernel_rfl) (by kernel_rfl) (by kernel_rfl) (fun _ _ _ h => h) (Or.inl ⟨by kernel_rfl, ?_⟩) (by assumption) ?_
                  rotate_left
                  · (intro w hSw; (try dsimp only at hSw); go_simp; try with_reducible rfl)
                  (try simp only [Act.put, List.setIfInBounds_toArray, List.set_cons_zero, List.set_cons_succ])
                  refine wpAnyH_take (i := 5) (oi := ⟨some 54, _, _, _, _, _⟩) (v := ?_) rfl (by kernel_rfl) (by kernel_rfl) (by kernel_rfl) (fun _ _ _ h => h) (Or.inl ⟨by kernel_rfl, ?_⟩) (by assumption) ?_
                  rotate_left
                  · (intro w hSw; (try dsimp only at hSw); go_simp; try with_reducible rfl)
                  (try simp only [Act.put, List.setIfInBounds_toArray, List.set_cons_zero, List.set_cons_succ])
                  refine wpAnyH_take (i := 6) (oi := ⟨some 55, _, _, _, _, _⟩) (v := ?_) rfl (by kernel_rfl) (by kernel_rfl) (by kernel_rfl) (fun _ _ _ h => h) (Or.inl ⟨by kernel_rfl, ?_⟩) (by assumption) ?_
                  rotate_left
                  · (intro w hSw; (try dsimp only at hSw); go_simp; try with_reducible rfl)
                  (try simp only [Act.put, List.setIfInBounds_toArray, List.set_cons_zero, List.set_cons_succ])
                  refine wpAnyH_ready (rs := [3]) (by kernel_rfl) (by simp) ?_
                  refine AllReadyH.cons (o := ⟨some 52, _, _, _, _, _⟩) rfl (fun K hK => ?_) AllReadyH.nil
                  rw [if_pos (by kernel_rfl)]
                  go_simp
                  go_at_call 36; refine (HAX.out _ hkq).mono ?_; rintro e wa ⟨rfl, hba⟩
                  have hka := hkq.trans (hba.mono hkq.size)
                  refine hK.out _ _ ?_ (fun hHeld => ?_)
                  · exact HSN.out _ hka
                  clear hK K
                  (try simp only [Act.put, List.setIfInBounds_toArray, List.set_cons_zero, List.set_cons_succ])
                  refine wpAnyH_ready (rs := [7]) (by kernel_rfl) (by simp) ?_
                  refine AllReadyH.cons (o := ⟨some 56, _, _, _, _, _⟩) rfl (fun K hK => ?_) AllReadyH.nil
                  rw [if_pos (by kernel_rfl)]
                  go_simp
                  go_at_call 36; refine (HAY.out _ hka).mono ?_; rintro e wb ⟨rfl, hbb⟩
                  have hkb := hka.trans (hbb.mono hka.size)
                  refine hK.out _ _ ?_ (fun hHeld => ?_)
                  · exact HSN.out _ hkb
                  clear hK K
                  (try simp only [Act.put, List.setIfInBounds_toArray, List.set_cons_zero, List.set_cons_succ])
                  refine wpAnyH_take (i := 8) (oi := ⟨some 57, _, _, _, _, _⟩) (v := ?_) rfl (by kernel_rfl) (by kernel_rfl) (by kernel_rfl) (fun _ _ _ h => h) (Or.inl ⟨by kernel_rfl, ?_⟩) (by assumption) ?_
                  rotate_left
                  · (intro w hSw; (try dsimp only at hSw); go_simp; try with_reducible rfl)
                  (try simp only [Act.put, List.setIfInBounds_toArray, List.set_cons_zero, List.set_cons_succ])
                  refine wpAnyH_done (by kernel_rfl) ?_ _
                  clear hHeld
                  have HKN := Lib.hid hkb
                  clear hkb hka hkq hba hbb
                  by_cases hne : a1 = a2
                  · have hnb : ((a1 : Int) != (a2 : Int)) = false := by rw [hne]; simp
                    have HT2 : Hid (shiftC x y c (t + 1) = st) := Lib.hid (by rw [HTS.out, hne]; simp)
                    clear hne
                    go_wp2_with fail
                    go_roundg (64 - (t + 1))
                    case measure => have := HG3.out; omega
                    case rel => exact ⟨t + 1, by omega, rfl, by go_num, by rw [HT2.out]; go_num, HKN⟩
                  · have hnb : ((a1 : Int) != (a2 : Int)) = true := by simp; omega
                    have HT2 : Hid (shiftC x y c (t + 1) = st + 1) := Lib.hid (by
                      rw [HTS.out, show (a1 != a2) = true from by simp; exact hne]
                      rfl)
                    clear hne
                    go_wp2_with fail
                    go_roundg (64 - (t + 1))
                    case measure => have := HG3.out; omega
                    case rel => exact ⟨t + 1, by omega, rfl, by go_num, by rw [HT2.out]; go_num, HKN⟩
                · have ht64 : t = 64 := by omega
                  subst ht64
                  have HE : Hid (s1 + shiftC x y c 64 = sp + shiftK x y (c + 1)) := Lib.hid (by rw [HKS.out, ← HS1.out]; omega)
                  rw [HE.out]
                  go_wp2_with fail
                  go_roundg (16 - (c + 1))
                  case measure => have := HG2.out; omega
                  case rel => exact ⟨c + 1, by omega, rfl, by go_num, rfl, HKT⟩
            · have hc16 : c = 16 := by omega
              subst hc16
              have HKN : Hid (Below w3.heap.size w3 wr) := Lib.hid (HBW.out.trans ((HKR.out.trans (HKC.out.mono HKR.out.size)).mono HBW.out.size))
              rw [← HSUC2.out]
              go_wp2_with fail
              rw [← hA2]
              go_roundg (nx - (i + 1))
              case measure => have := HG.out; omega
              case rel => exact ⟨i + 1, by omega, rfl, by go_num, rfl, HKN⟩
    · have HAL : Hid (shiftP la lb i = shiftT la lb) := Lib.hid (shiftP_all (by rw [HXS.out, HNX.out]; omega))
      have HBE := Lib.hid (HB2.out.trans (HKW.out.mono HB2.out.size))
      go_wp2_with fail
      go_ret
      exact ⟨by rw [HAL.out]; rfl, HBE.out⟩
end Go.Proofs.Ytincbilobmhgeaa
