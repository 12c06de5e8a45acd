/-
  Who changes from a plan to another, in the document's words.
  Conditions: the slices read as places; their pieces are of their kinds.
-/
import Derived.Test.YtincbilobmhgeaaM17
import Derived.Test.YtincbilobmhgeaaM18
import Derived.Test.YtincbilobmhgeaaM02
import Derived.Test.YtincbilobmhgeaaM15

/-
  Who changes from a plan to another, in the document's words.
  Conditions: the slices read as places; their pieces are of their kinds.
-/
set_option linter.unusedVariables false
set_option linter.unusedSimpArgs false
namespace Go.Proofs.Ytincbilobmhgeaa
open Go.RowKit

theorem pcs_lt {W : World} {A : Option Addr} {n c N : Nat} {ps : List Pc} (h : PcsAt W (.slice A n c) ps) (hN : W.heap.size = N) : PcsIn (fun b => b ≠ N) W (.slice A n c) ps := h.mono fun b hb _ => by omega
theorem IntsAt.apart22 {F : Nat → Prop} {W W' : World} {v : Value} {xs : List Int} (h : IntsAt W v xs) (hF : ∀ k, v.ownBlock = some k → ¬ F k) (ha : Apart F W W') : IntsAt W' v xs := by
  obtain ⟨A, c, rfl, h2, h3⟩ := h
  refine ⟨A, c, rfl, h2, fun hn => ?_⟩
  obtain ⟨b, off, e, hlt, hc⟩ := h3 hn
  subst e
  refine ⟨b, off, rfl, Nat.lt_of_lt_of_le hlt ha.size, fun j x hx => ?_⟩
  have hb := ha.block b hlt (hF b rfl)
  rw [← hc j x hx]
  simp [World.cell?, hb]
theorem zero_ok : PlOk zeroPl := ⟨⟨by decide, by decide⟩, ⟨by decide, by decide⟩, ⟨by decide, by decide⟩, fun y hy => by cases hy⟩
theorem placeU_ok {l : List Pl} (hL : LightL l) (u : Int) : PlOk (placeU l u) ∧ (placeU l u).ps.length ≤ 1000 := by
  unfold placeU
  cases h : findU l u with
  | none => exact ⟨zero_ok, by show (0 : Nat) ≤ 1000; decide⟩
  | some x => exact hL.ok x (List.mem_of_find?_eq_some h)
def listP (k : Nat) (la lb : List Pl) (i : Nat) : List Int := ((unitsU la lb).take i).filter (kindB k la lb)
theorem listP_succ {k : Nat} {la lb : List Pl} {i : Nat} {u : Int} (h : (unitsU la lb)[i]? = some u) : listP k la lb (i + 1) = if kindB k la lb u = true then listP k la lb i ++ [u] else listP k la lb i := by
  unfold listP
  rw [List.take_add_one, h, Option.toList_some, List.filter_append]
  cases hk : kindB k la lb u with
  | true => rw [if_pos rfl]; simp [List.filter, hk]
  | false => rw [if_neg (by decide)]; simp [List.filter, hk]
theorem listP_all {k : Nat} {la lb : List Pl} {i : Nat} (h : (unitsU la lb).length ≤ i) : listP k la lb i = listU k la lb := by unfold listP listU; rw [List.take_of_length_le h]
theorem listP_le (k : Nat) (la lb : List Pl) (i : Nat) : (listP k la lb i).length ≤ i := by
  unfold listP
  refine Nat.le_trans (List.length_filter_le _ _) ?_
  rw [List.length_take]
  omega
theorem unitsU_le (la lb : List Pl) : (unitsU la lb).length ≤ 1040 := by
  have := unitsT_le la lb 1040
  rwa [unitsT_all] at this

set_option maxRecDepth 100000 in
set_option maxHeartbeats 16000000 in
theorem refList_any (k : Nat) (hk : k ≤ 4) (f1 f2 : Int) (m1 m2 : Nat) (v1 v2 : Value) (la lb : List Pl) (w : World) (h1 : PlsAt w v1 la) (h2 : PlsAt w v2 lb) (hL1 : LightL la) (hL2 : LightL lb) :
    Calls Try.prog 11 #[.int .i64 (k : Int), planA f1 m1 v1, planA f2 m2 v2] w (RetLN (listU k la lb) w) := by
  have mixed : Try.prog.follows .mixedOrders = true := by kernel_rfl
  obtain ⟨i0, hi0', hz0, hz1, hz2⟩ := info_parts Try.infoInt
  obtain ⟨w1, P, hw1, hP, hPl, hb1, hpb⟩ := box_any w #[.int .i64 f1, .int .u32 m1, v1] 25
  obtain ⟨w2, Q, hw2, hQ, hQl, hb2, hqb⟩ := box_any w1 #[.int .i64 f2, .int .u32 m2, v2] 25
  have HB2 := Lib.hid (hb1.trans (hb2.mono hb1.size))
  have HPB := Lib.hid (keep_block hpb hb2)
  have HQB := Lib.hid hqb
  have HSP : Hid (∀ W, Below w2.heap.size w2 W → W.cell? ⟨P, 0, none⟩ = some (.int .i64 f1) ∧ W.cell? ⟨P, 1, none⟩ = some (.int .u32 m1) ∧ W.cell? ⟨P, 2, none⟩ = some v1) := Lib.hid (fun W hk => three_heads (keep_block HPB.out hk))
  have HSQ : Hid (∀ W, Below w2.heap.size w2 W → W.cell? ⟨Q, 0, none⟩ = some (.int .i64 f2) ∧ W.cell? ⟨Q, 1, none⟩ = some (.int .u32 m2) ∧ W.cell? ⟨Q, 2, none⟩ = some v2) := Lib.hid (fun W hk => three_heads (keep_block HQB.out hk))
  have HG1 : Hid (∀ W, Below w2.heap.size w2 W → PlsIn (fun b => b < w2.heap.size) W v1 la) := Lib.hid (fun W hk => ((PlsIn.mono h1 fun b hb _ => hb).keep (HB2.out.trans (hk.mono HB2.out.size))).mono fun b _ hb => Nat.lt_of_lt_of_le hb HB2.out.size)
  have HG2 : Hid (∀ W, Below w2.heap.size w2 W → PlsIn (fun b => b < w2.heap.size) W v2 lb) := Lib.hid (fun W hk => ((PlsIn.mono h2 fun b hb _ => hb).keep (HB2.out.trans (hk.mono HB2.out.size))).mono fun b _ hb => Nat.lt_of_lt_of_le hb HB2.out.size)
  have HF1 := Lib.hid (fun (u : Int) W (hk : Below w2.heap.size w2 W) => refFindG_any _ f1 m1 v1 la u W (HG1.out W hk) (by have := hL1.len; omega))
  have HF2 := Lib.hid (fun (u : Int) W (hk : Below w2.heap.size w2 W) => refFindG_any _ f2 m2 v2 lb u W (HG2.out W hk) (by have := hL2.len; omega))
  have HUN := Lib.hid (refUnits_any f1 f2 m1 m2 v1 v2 la lb (w2.alloc (Obj.cells #[] 3)) ((h1.keep HB2.out).keep ((Below.refl _ _).alloc (Nat.le_refl _) _)) ((h2.keep HB2.out).keep ((Below.refl _ _).alloc (Nat.le_refl _) _)) (by have := hL1.len; omega) (by have := hL2.len; omega))
  have HLL := Lib.hid (show LightL la ∧ LightL lb from ⟨hL1, hL2⟩)
  have HB0 := Lib.hid (show Below w2.heap.size w2 (w2.alloc (Obj.cells #[] 3)) from (Below.refl _ _).alloc (Nat.le_refl _) _)
  have HO0 : Hid ((w2.alloc (Obj.cells #[] 3)).ownsRow w2.heap.size 3 1 (.slice (some ⟨w2.heap.size, 0, none⟩) 0 0) (listP k la lb 0).length ((listP k la lb 0).map (Value.int .i64))) :=
    ⟨rfl, .inr ⟨w2.heap.size, 0, #[], rfl, Nat.le_refl _, heap_alloc_new w2 _, Nat.le_refl _, Nat.zero_le _, rfl, rfl⟩⟩
  obtain ⟨p0, p1, p2⟩ := HSP.out _ HB0.out
  obtain ⟨q0, q1, q2⟩ := HSQ.out _ HB0.out
  unfold RetFind planA plA at HF1 HF2
  unfold planA at HUN ⊢
  obtain ⟨xs, hxs⟩ : ∃ xs, unitsU la lb = xs := ⟨_, rfl⟩
  have hnx := unitsU_le la lb
  rw [hxs] at HUN hnx
  have HXS := Lib.hid hxs
  clear h1 h2 hb1 hb2 hpb hqb hL1 hL2 hxs
  go_enter Try.func11, Try.ntmps11
  go_wp2_with fail
  refine HUN.out.mono ?_
  rintro e w3 ⟨v3, rfl, hv3, hb3, hfr3⟩
  have HB3 : Hid (Below w2.heap.size w2 w3) := Lib.hid (HB0.out.trans (hb3.mono HB0.out.size))
  have HO3 := Lib.hid (own_below5 HO0.out hb3)
  have HV3 := Lib.hid hv3
  obtain ⟨A3, c3, rfl, _, hat3⟩ := hv3
  have HF3 : Hid (∀ k, (Value.slice A3 xs.length c3).ownBlock = some k → 0 < xs.length → w2.heap.size < k ∧ k < w3.heap.size) := Lib.hid (fun k hk h0 => by
    have h7 := hfr3 k hk
    obtain ⟨b, off, e, hb, _⟩ := hat3 h0
    rw [e] at hk
    have h8 : b = k := Option.some.inj hk
    have h9 : (w2.alloc (Obj.cells #[] 3)).heap.size = w2.heap.size + 1 := by simp
    omega)
  obtain ⟨nx, hnxe⟩ : ∃ n, xs.length = n := ⟨_, rfl⟩
  have HNX := Lib.hid hnxe
  rw [hnxe] at HV3 hnx HF3 ⊢
  clear hb3 hfr3 hat3 hnxe p0 p1 p2 q0 q1 q2 hw1 hw2 hP hQ
  go_wp2_with fail
  go_loopg [7, 9] nx (fun gg s7 s9 wr => ∃ i : Nat, i ≤ nx ∧ gg = nx - i ∧ s9 = .int .i64 i ∧ Hid (Below w2.heap.size w2 wr) ∧ Hid (IntsAt wr (.slice A3 nx c3) xs) ∧ Hid (w3.heap.size ≤ wr.heap.size) ∧ Hid (wr.ownsRow w2.heap.size 3 1 s7 (listP k la lb i).length ((listP k la lb i).map (Value.int .i64))) ∧ Hid (∀ b, s7.ownBlock = some b → b = w2.heap.size ∨ w3.heap.size ≤ b))
  case atStart => exact ⟨0, Nat.zero_le _, rfl, rfl, HB3, HV3, Lib.hid (Nat.le_refl _), HO3, Lib.hid (fun b hb => .inl (Option.some.inj hb).symm)⟩
  case round =>
    obtain ⟨i, hi, hgg, rfl, HKW, HVR, HSZ, HO, HF7⟩ := hrel
    have HG := Lib.hid hgg
    clear hgg
    by_cases hlt : i < nx
    · have hltz : (i : Int) < (nx : Int) := by omega
      have hi0 : (0 : Int) ≤ (i : Int) := by omega
      obtain ⟨un, hun⟩ : ∃ x, xs[i]? = some x := ⟨_, List.getElem?_eq_getElem (by rw [HNX.out]; exact hlt)⟩
      have HU := Lib.hid hun
      obtain ⟨A', c', hA', _, hcell⟩ := HVR.out
      obtain ⟨lb', loff, hAb, hbl, hc⟩ := hcell (by rw [HNX.out]; omega)
      have hA2 : A3 = some ⟨lb', loff, none⟩ := by simp only [Value.slice.injEq] at hA'; rw [← hAb]; exact hA'.1
      rw [hA2]
      have HCE : Hid (∀ W, Below wr.heap.size wr W → W.cell? ⟨lb', loff + i, none⟩ = some (.int .i64 un)) := Lib.hid (fun W hk => (hk.cell (p := ⟨lb', loff + i, none⟩) hbl).trans (hc i un hun))
      have HSE1 : Hid (∀ W, Below wr.heap.size wr W → W.cell? ⟨P, 0, none⟩ = some (.int .i64 f1) ∧ W.cell? ⟨P, 1, none⟩ = some (.int .u32 m1) ∧ W.cell? ⟨P, 2, none⟩ = some v1 ∧ W.cell? ⟨lb', loff + i, none⟩ = some (.int .i64 un)) := Lib.hid (fun W hk => by
        obtain ⟨a, b, c⟩ := HSP.out W (HKW.out.trans (hk.mono HKW.out.size))
        exact ⟨a, b, c, HCE.out W hk⟩)
      have HF1 := Lib.hid (HF1.out un)
      have HF2 := Lib.hid (HF2.out un)
      obtain ⟨o1, ho1⟩ : ∃ o, findU la un = o := ⟨_, rfl⟩
      obtain ⟨o2, ho2⟩ : ∃ o, findU lb un = o := ⟨_, rfl⟩
      rw [ho1] at HF1
      rw [ho2] at HF2
      have HO1 := Lib.hid ho1
      have HO2 := Lib.hid ho2
      clear hcell hc hA' hAb hun ho1 ho2
      go_upto_region 6 with fail
      go_cut [10, 11] from 25 to 33 (fun sx sb wx => ∃ (N : Nat) (A : Option Addr) (n d : Nat), sx = .pointer (some ⟨N, 0, none⟩) ∧ sb = .bool o1.isSome ∧ Hid (wr.heap.size ≤ N) ∧ Hid (wx.heap[N]? = some (.cells #[.int .i64 (o1.getD zeroPl).u, .int .i64 (o1.getD zeroPl).s, .int .i64 (o1.getD zeroPl).c, .slice A n d] 37 (0, 0))) ∧ Hid (PcsAt wx (.slice A n d) (o1.getD zeroPl).ps) ∧ Hid (Below wr.heap.size wr wx))
      case first =>
        have hkd : Below wr.heap.size wr wr.drew := (Below.refl _ _).drew
        refine wp_region_N (S1 := fun w' => w'.cell? ⟨P, 0, none⟩ = some (.int .i64 f1) ∧ w'.cell? ⟨P, 1, none⟩ = some (.int .u32 m1) ∧ w'.cell? ⟨P, 2, none⟩ = some v1 ∧ w'.cell? ⟨lb', loff + i, none⟩ = some (.int .i64 un)) (S2 := fun _ => True) (N := fun _ => true) (by kernel_rfl) ?_
        change wpAnyN _ _ _ _ _ _ _ 12 (Array.replicate 12 false) _ _
        refine wpAnyN_take false (i := 0) (oi := ⟨some 26, _, _, _, _, _⟩) (v := ?_) rfl (by kernel_rfl) (by kernel_rfl) (by kernel_rfl) (fun _ _ _ h => h) (Or.inl ⟨by kernel_rfl, ?_⟩) ⟨HSE1.out _ hkd, fun h => (by cases h)⟩ ?_
        rotate_left
        · (intro w hSw; obtain ⟨hSa, hSb⟩ := hSw; clear hSb; (try dsimp only at hSa); go_simp; try with_reducible rfl)
        (try simp only [Act.put, List.setIfInBounds_toArray, List.set_cons_zero, List.set_cons_succ])
        refine wpAnyN_take false (i := 1) (oi := ⟨some 27, _, _, _, _, _⟩) (v := ?_) rfl (by kernel_rfl) (by kernel_rfl) (by kernel_rfl) (fun _ _ _ h => h) (Or.inl ⟨by kernel_rfl, ?_⟩) ⟨HSE1.out _ hkd, fun h => (by cases h)⟩ ?_
        rotate_left
        · (intro w hSw; obtain ⟨hSa, hSb⟩ := hSw; clear hSb; (try dsimp only at hSa); go_simp; try with_reducible rfl)
        (try simp only [Act.put, List.setIfInBounds_toArray, List.set_cons_zero, List.set_cons_succ])
        refine wpAnyN_take false (i := 2) (oi := ⟨some 28, _, _, _, _, _⟩) (v := ?_) rfl (by kernel_rfl) (by kernel_rfl) (by kernel_rfl) (fun _ _ _ h => h) (Or.inl ⟨by kernel_rfl, ?_⟩) ⟨HSE1.out _ hkd, fun h => (by cases h)⟩ ?_
        rotate_left
        · (intro w hSw; obtain ⟨hSa, hSb⟩ := hSw; clear hSb; (try dsimp only at hSa); go_simp; try with_reducible rfl)
        (try simp only [Act.put, List.setIfInBounds_toArray, List.set_cons_zero, List.set_cons_succ])
        refine wpAnyN_take false (i := 3) (oi := ⟨some 29, _, _, _, _, _⟩) (v := ?_) rfl (by kernel_rfl) (by kernel_rfl) (by kernel_rfl) (fun _ _ _ h => h) (Or.inl ⟨by kernel_rfl, ?_⟩) ⟨HSE1.out _ hkd, fun h => (by cases h)⟩ ?_
        rotate_left
        · (intro w hSw; obtain ⟨hSa, hSb⟩ := hSw; clear hSb; (try dsimp only at hSa); go_simp; try with_reducible rfl)
        (try simp only [Act.put, List.setIfInBounds_toArray, List.set_cons_zero, List.set_cons_succ])
        refine wpAnyN_take false (i := 4) (oi := ⟨some 30, _, _, _, _, _⟩) (v := ?_) rfl (by kernel_rfl) (by kernel_rfl) (by kernel_rfl) (fun _ _ _ h => h) (Or.inl ⟨by kernel_rfl, ?_⟩) ⟨HSE1.out _ hkd, fun h => (by cases h)⟩ ?_
        rotate_left
        · (intro w hSw; obtain ⟨hSa, hSb⟩ := hSw; clear hSb; (try dsimp only at hSa); go_simp; try with_reducible rfl)
        (try simp only [Act.put, List.setIfInBounds_toArray, List.set_cons_zero, List.set_cons_succ])
        refine wpAnyN_two (i := 5) (j := 9) (by kernel_rfl) rfl rfl (by kernel_rfl) (by kernel_rfl) ?_ ?_
        · intro K' hK
          (try simp only [Act.put, List.setIfInBounds_toArray, List.set_cons_zero, List.set_cons_succ])
          go_simp
          go_at_call 18; refine (HF1.out _ (HKW.out.trans (hkd.mono HKW.out.size))).mono ?_; rintro e wa ⟨va, rfl, hpa, hba⟩
          obtain ⟨A, c, rfl, hq1, hq2, hq3⟩ := hpa
          obtain ⟨n, hn⟩ : ∃ n, (o1.getD zeroPl).ps.length = n := ⟨_, rfl⟩
          rw [hn]
          have hka := hkd.trans (hba.mono hkd.size)
          refine hK.out _ _ (HSE1.out _ hka) (fun _ _ => trivial) ?_
          clear hK K'
          (try simp only [Act.put, List.setIfInBounds_toArray, List.set_cons_zero, List.set_cons_succ])
          refine wpAnyN_take false (i := 6) (oi := ⟨some 25, _, _, _, _, _⟩) (v := ?_) rfl (by kernel_rfl) (by kernel_rfl) (by kernel_rfl) (fun _ _ _ h => h) (Or.inl ⟨by kernel_rfl, ?_⟩) ⟨HSE1.out _ hka, fun h => (by cases h)⟩ ?_
          rotate_left
          · (intro w hSw; obtain ⟨hSa, hSb⟩ := hSw; clear hSb; (try dsimp only at hSa); go_simp; try with_reducible rfl)
          (try simp only [Act.put, List.setIfInBounds_toArray, List.set_cons_zero, List.set_cons_succ])
          refine wpAnyN_take false (i := 7) (oi := ⟨some 32, _, _, _, _, _⟩) (v := ?_) rfl (by kernel_rfl) (by kernel_rfl) (by kernel_rfl) (fun _ _ _ h => h) (Or.inl ⟨by kernel_rfl, ?_⟩) ⟨HSE1.out _ hka, fun h => (by cases h)⟩ ?_
          rotate_left
          · (intro w hSw; obtain ⟨hSa, hSb⟩ := hSw; clear hSb; (try dsimp only at hSa); go_simp; try with_reducible rfl)
          (try simp only [Act.put, List.setIfInBounds_toArray, List.set_cons_zero, List.set_cons_succ])
          refine wpAnyN_take false (i := 8) (oi := ⟨some 33, _, _, _, _, _⟩) (v := ?_) rfl (by kernel_rfl) (by kernel_rfl) (by kernel_rfl) (fun _ _ _ h => h) (Or.inl ⟨by kernel_rfl, ?_⟩) ⟨HSE1.out _ hka, fun h => (by cases h)⟩ ?_
          rotate_left
          · (intro w hSw; obtain ⟨hSa, hSb⟩ := hSw; clear hSb; (try dsimp only at hSa); go_simp; try with_reducible rfl)
          (try simp only [Act.put, List.setIfInBounds_toArray, List.set_cons_zero, List.set_cons_succ])
          refine wpAnyN_step (i := 9) (by kernel_rfl) rfl (by kernel_rfl) ?_
          intro K' hK
          (try simp only [Act.put, List.setIfInBounds_toArray, List.set_cons_zero, List.set_cons_succ])
          obtain ⟨wz, N, hwz, hN, hNl, hbz, hnz⟩ := box_any wa #[.int .i64 0, .int .i64 0, .int .i64 0, .slice none 0 0] 37
          go_simp
          have hkz := hka.trans (hbz.mono hka.size)
          have hNlo : wr.heap.size ≤ N := by have := hka.size; omega
          refine hK.out _ _ (HSE1.out _ hkz) (fun _ _ => trivial) ?_
          clear hK K'
          (try simp only [Act.put, List.setIfInBounds_toArray, List.set_cons_zero, List.set_cons_succ])
          have hpa : PcsIn (fun b => b < w2.heap.size) wa (.slice A n c) (o1.getD zeroPl).ps := ⟨A, c, by rw [hn], hq1, hq2, hq3⟩
          have hpz : PcsIn (fun b => b ≠ N) wz (.slice A n c) (o1.getD zeroPl).ps := (hpa.mono fun b _ hg => by have := HKW.out.size; omega).keep hbz
          refine wpAnyN_step (i := 10) (by kernel_rfl) rfl (by kernel_rfl) ?_
          intro K' hK
          (try simp only [Act.put, List.setIfInBounds_toArray, List.set_cons_zero, List.set_cons_succ])
          refine wp_store_row _ _ _ rfl N #[.int .i64 (o1.getD zeroPl).u, .int .i64 (o1.getD zeroPl).s, .int .i64 (o1.getD zeroPl).c, .slice A n c] (by simp [Act.eval, Act.put]) (by simp [Act.eval, Act.put]) 37 #[.int .i64 0, .int .i64 0, .int .i64 0, .slice none 0 0] hnz (Try.sizePl _ _ _ _) rfl (one4 _ _ _ _ _ _) ?_
          have hkF : Below wr.heap.size wr (wz.setRow N #[.int .i64 (o1.getD zeroPl).u, .int .i64 (o1.getD zeroPl).s, .int .i64 (o1.getD zeroPl).c, .slice A n c]) := below_row16 hkz hNlo _
          refine hK.out _ _ (HSE1.out _ hkF) (fun _ _ => trivial) ?_
          clear hK K'
          (try simp only [Act.put, List.setIfInBounds_toArray, List.set_cons_zero, List.set_cons_succ])
          refine wpAnyN_take false (i := 11) (oi := ⟨some 11, _, _, _, _, _⟩) (v := ?_) rfl (by kernel_rfl) (by kernel_rfl) (by kernel_rfl) (fun _ _ _ h => h) (Or.inl ⟨by kernel_rfl, ?_⟩) ⟨HSE1.out _ hkF, fun h => (by cases h)⟩ ?_
          rotate_left
          · (intro w hSw; obtain ⟨hSa, hSb⟩ := hSw; clear hSb; (try dsimp only at hSa); go_simp; try with_reducible rfl)
          (try simp only [Act.put, List.setIfInBounds_toArray, List.set_cons_zero, List.set_cons_succ])
          refine wpAnyN_done (by kernel_rfl) ?_
          go_wp2_with fail
          go_meet
          exact ⟨N, A, n, c, rfl, rfl, Lib.hid hNlo, Lib.hid (setRow_heap _ _ _ _ _ _ hnz), Lib.hid (PcsIn.setRow hpz (.inl fun h => h rfl)).any, Lib.hid hkF⟩
        · intro K' hK
          (try simp only [Act.put, List.setIfInBounds_toArray, List.set_cons_zero, List.set_cons_succ])
          obtain ⟨wy, N, hwz, hN, hNl, hby, hny⟩ := box_any wr.drew #[.int .i64 0, .int .i64 0, .int .i64 0, .slice none 0 0] 37
          go_simp
          have hky := hkd.trans (hby.mono hkd.size)
          have hNlo : wr.heap.size ≤ N := by have := hkd.size; omega
          refine hK.out _ _ (HSE1.out _ hky) (fun _ _ => trivial) ?_
          clear hK K'
          (try simp only [Act.put, List.setIfInBounds_toArray, List.set_cons_zero, List.set_cons_succ])
          refine wpAnyN_step (i := 5) (by kernel_rfl) rfl (by kernel_rfl) ?_
          intro K' hK
          (try simp only [Act.put, List.setIfInBounds_toArray, List.set_cons_zero, List.set_cons_succ])
          go_simp
          go_at_call 18; refine (HF1.out _ (HKW.out.trans (hky.mono HKW.out.size))).mono ?_; rintro e wa ⟨va, rfl, hpa, hba⟩
          obtain ⟨A, c, rfl, hq1, hq2, hq3⟩ := hpa
          obtain ⟨n, hn⟩ : ∃ n, (o1.getD zeroPl).ps.length = n := ⟨_, rfl⟩
          rw [hn]
          have hkz := hky.trans (hba.mono hky.size)
          refine hK.out _ _ (HSE1.out _ hkz) (fun _ _ => trivial) ?_
          clear hK K'
          (try simp only [Act.put, List.setIfInBounds_toArray, List.set_cons_zero, List.set_cons_succ])
          refine wpAnyN_take false (i := 6) (oi := ⟨some 25, _, _, _, _, _⟩) (v := ?_) rfl (by kernel_rfl) (by kernel_rfl) (by kernel_rfl) (fun _ _ _ h => h) (Or.inl ⟨by kernel_rfl, ?_⟩) ⟨HSE1.out _ hkz, fun h => (by cases h)⟩ ?_
          rotate_left
          · (intro w hSw; obtain ⟨hSa, hSb⟩ := hSw; clear hSb; (try dsimp only at hSa); go_simp; try with_reducible rfl)
          (try simp only [Act.put, List.setIfInBounds_toArray, List.set_cons_zero, List.set_cons_succ])
          refine wpAnyN_take false (i := 7) (oi := ⟨some 32, _, _, _, _, _⟩) (v := ?_) rfl (by kernel_rfl) (by kernel_rfl) (by kernel_rfl) (fun _ _ _ h => h) (Or.inl ⟨by kernel_rfl, ?_⟩) ⟨HSE1.out _ hkz, fun h => (by cases h)⟩ ?_
          rotate_left
          · (intro w hSw; obtain ⟨hSa, hSb⟩ := hSw; clear hSb; (try dsimp only at hSa); go_simp; try with_reducible rfl)
          (try simp only [Act.put, List.setIfInBounds_toArray, List.set_cons_zero, List.set_cons_succ])
          refine wpAnyN_take false (i := 8) (oi := ⟨some 33, _, _, _, _, _⟩) (v := ?_) rfl (by kernel_rfl) (by kernel_rfl) (by kernel_rfl) (fun _ _ _ h => h) (Or.inl ⟨by kernel_rfl, ?_⟩) ⟨HSE1.out _ hkz, fun h => (by cases h)⟩ ?_
          rotate_left
          · (intro w hSw; obtain ⟨hSa, hSb⟩ := hSw; clear hSb; (try dsimp only at hSa); go_simp; try with_reducible rfl)
          (try simp only [Act.put, List.setIfInBounds_toArray, List.set_cons_zero, List.set_cons_succ])
          obtain ⟨wz, hwz2⟩ : ∃ wz, wz = wa := ⟨_, rfl⟩
          subst hwz2
          have hnz := keep_block hny hba
          have hpa : PcsIn (fun b => b < w2.heap.size) wz (.slice A n c) (o1.getD zeroPl).ps := ⟨A, c, by rw [hn], hq1, hq2, hq3⟩
          have hpz : PcsIn (fun b => b ≠ N) wz (.slice A n c) (o1.getD zeroPl).ps := hpa.mono fun b _ hg => by have := HKW.out.size; omega
          refine wpAnyN_step (i := 10) (by kernel_rfl) rfl (by kernel_rfl) ?_
          intro K' hK
          (try simp only [Act.put, List.setIfInBounds_toArray, List.set_cons_zero, List.set_cons_succ])
          refine wp_store_row _ _ _ rfl N #[.int .i64 (o1.getD zeroPl).u, .int .i64 (o1.getD zeroPl).s, .int .i64 (o1.getD zeroPl).c, .slice A n c] (by simp [Act.eval, Act.put]) (by simp [Act.eval, Act.put]) 37 #[.int .i64 0, .int .i64 0, .int .i64 0, .slice none 0 0] hnz (Try.sizePl _ _ _ _) rfl (one4 _ _ _ _ _ _) ?_
          have hkF : Below wr.heap.size wr (wz.setRow N #[.int .i64 (o1.getD zeroPl).u, .int .i64 (o1.getD zeroPl).s, .int .i64 (o1.getD zeroPl).c, .slice A n c]) := below_row16 hkz hNlo _
          refine hK.out _ _ (HSE1.out _ hkF) (fun _ _ => trivial) ?_
          clear hK K'
          (try simp only [Act.put, List.setIfInBounds_toArray, List.set_cons_zero, List.set_cons_succ])
          refine wpAnyN_take false (i := 11) (oi := ⟨some 11, _, _, _, _, _⟩) (v := ?_) rfl (by kernel_rfl) (by kernel_rfl) (by kernel_rfl) (fun _ _ _ h => h) (Or.inl ⟨by kernel_rfl, ?_⟩) ⟨HSE1.out _ hkF, fun h => (by cases h)⟩ ?_
          rotate_left
          · (intro w hSw; obtain ⟨hSa, hSb⟩ := hSw; clear hSb; (try dsimp only at hSa); go_simp; try with_reducible rfl)
          (try simp only [Act.put, List.setIfInBounds_toArray, List.set_cons_zero, List.set_cons_succ])
          refine wpAnyN_done (by kernel_rfl) ?_
          go_wp2_with fail
          go_meet
          exact ⟨N, A, n, c, rfl, rfl, Lib.hid hNlo, Lib.hid (setRow_heap _ _ _ _ _ _ hnz), Lib.hid (PcsIn.setRow hpz (.inl fun h => h rfl)).any, Lib.hid hkF⟩
      case rest =>
        obtain ⟨N1, A1, n1, d1, rfl, rfl, HNL1, HX1, HPX1, HKX⟩ := hcut
        obtain ⟨wX, hwX⟩ : ∃ w, w = wc := ⟨_, rfl⟩
        subst hwX
        have HKX2 : Hid (Below w2.heap.size w2 wX) := Lib.hid (HKW.out.trans (HKX.out.mono HKW.out.size))
        have HSE2 : Hid (∀ W, Below wX.heap.size wX W → W.cell? ⟨Q, 0, none⟩ = some (.int .i64 f2) ∧ W.cell? ⟨Q, 1, none⟩ = some (.int .u32 m2) ∧ W.cell? ⟨Q, 2, none⟩ = some v2 ∧ W.cell? ⟨lb', loff + i, none⟩ = some (.int .i64 un)) := Lib.hid (fun W hk => by
          obtain ⟨a, b, c⟩ := HSQ.out W (HKX2.out.trans (hk.mono HKX2.out.size))
          exact ⟨a, b, c, HCE.out W (HKX.out.trans (hk.mono HKX.out.size))⟩)
        go_upto_region 7 with fail
        go_cut [12, 13] from 34 to 42 (fun sx sb wx => ∃ (N : Nat) (A : Option Addr) (n d : Nat), sx = .pointer (some ⟨N, 0, none⟩) ∧ sb = .bool o2.isSome ∧ Hid (wX.heap.size ≤ N) ∧ Hid (wx.heap[N]? = some (.cells #[.int .i64 (o2.getD zeroPl).u, .int .i64 (o2.getD zeroPl).s, .int .i64 (o2.getD zeroPl).c, .slice A n d] 37 (0, 0))) ∧ Hid (PcsAt wx (.slice A n d) (o2.getD zeroPl).ps) ∧ Hid (Below wX.heap.size wX wx))
        case first =>
          have hkd : Below wX.heap.size wX wX.drew := (Below.refl _ _).drew
          refine wp_region_N (S1 := fun w' => w'.cell? ⟨Q, 0, none⟩ = some (.int .i64 f2) ∧ w'.cell? ⟨Q, 1, none⟩ = some (.int .u32 m2) ∧ w'.cell? ⟨Q, 2, none⟩ = some v2 ∧ w'.cell? ⟨lb', loff + i, none⟩ = some (.int .i64 un)) (S2 := fun _ => True) (N := fun _ => true) (by kernel_rfl) ?_
          change wpAnyN _ _ _ _ _ _ _ 12 (Array.replicate 12 false) _ _
          refine wpAnyN_take false (i := 0) (oi := ⟨some 35, _, _, _, _, _⟩) (v := ?_) rfl (by kernel_rfl) (by kernel_rfl) (by kernel_rfl) (fun _ _ _ h => h) (Or.inl ⟨by kernel_rfl, ?_⟩) ⟨HSE2.out _ hkd, fun h => (by cases h)⟩ ?_
          rotate_left
          · (intro w hSw; obtain ⟨hSa, hSb⟩ := hSw; clear hSb; (try dsimp only at hSa); go_simp; try with_reducible rfl)
          (try simp only [Act.put, List.setIfInBounds_toArray, List.set_cons_zero, List.set_cons_succ])
          refine wpAnyN_take false (i := 1) (oi := ⟨some 36, _, _, _, _, _⟩) (v := ?_) rfl (by kernel_rfl) (by kernel_rfl) (by kernel_rfl) (fun _ _ _ h => h) (Or.inl ⟨by kernel_rfl, ?_⟩) ⟨HSE2.out _ hkd, fun h => (by cases h)⟩ ?_
          rotate_left
          · (intro w hSw; obtain ⟨hSa, hSb⟩ := hSw; clear hSb; (try dsimp only at hSa); go_simp; try with_reducible rfl)
          (try simp only [Act.put, List.setIfInBounds_toArray, List.set_cons_zero, List.set_cons_succ])
          refine wpAnyN_take false (i := 2) (oi := ⟨some 37, _, _, _, _, _⟩) (v := ?_) rfl (by kernel_rfl) (by kernel_rfl) (by kernel_rfl) (fun _ _ _ h => h) (Or.inl ⟨by kernel_rfl, ?_⟩) ⟨HSE2.out _ hkd, fun h => (by cases h)⟩ ?_
          rotate_left
          · (intro w hSw; obtain ⟨hSa, hSb⟩ := hSw; clear hSb; (try dsimp only at hSa); go_simp; try with_reducible rfl)
          (try simp only [Act.put, List.setIfInBounds_toArray, List.set_cons_zero, List.set_cons_succ])
          refine wpAnyN_take false (i := 3) (oi := ⟨some 38, _, _, _, _, _⟩) (v := ?_) rfl (by kernel_rfl) (by kernel_rfl) (by kernel_rfl) (fun _ _ _ h => h) (Or.inl ⟨by kernel_rfl, ?_⟩) ⟨HSE2.out _ hkd, fun h => (by cases h)⟩ ?_
          rotate_left
          · (intro w hSw; obtain ⟨hSa, hSb⟩ := hSw; clear hSb; (try dsimp only at hSa); go_simp; try with_reducible rfl)
          (try simp only [Act.put, List.setIfInBounds_toArray, List.set_cons_zero, List.set_cons_succ])
          refine wpAnyN_take false (i := 4) (oi := ⟨some 39, _, _, _, _, _⟩) (v := ?_) rfl (by kernel_rfl) (by kernel_rfl) (by kernel_rfl) (fun _ _ _ h => h) (Or.inl ⟨by kernel_rfl, ?_⟩) ⟨HSE2.out _ hkd, fun h => (by cases h)⟩ ?_
          rotate_left
          · (intro w hSw; obtain ⟨hSa, hSb⟩ := hSw; clear hSb; (try dsimp only at hSa); go_simp; try with_reducible rfl)
          (try simp only [Act.put, List.setIfInBounds_toArray, List.set_cons_zero, List.set_cons_succ])
          refine wpAnyN_two (i := 5) (j := 9) (by kernel_rfl) rfl rfl (by kernel_rfl) (by kernel_rfl) ?_ ?_
          · intro K' hK
            (try simp only [Act.put, List.setIfInBounds_toArray, List.set_cons_zero, List.set_cons_succ])
            go_simp
            go_at_call 18; refine (HF2.out _ (HKX2.out.trans (hkd.mono HKX2.out.size))).mono ?_; rintro e wa ⟨va, rfl, hpa, hba⟩
            obtain ⟨A, c, rfl, hq1, hq2, hq3⟩ := hpa
            obtain ⟨n, hn⟩ : ∃ n, (o2.getD zeroPl).ps.length = n := ⟨_, rfl⟩
            rw [hn]
            have hka := hkd.trans (hba.mono hkd.size)
            refine hK.out _ _ (HSE2.out _ hka) (fun _ _ => trivial) ?_
            clear hK K'
            (try simp only [Act.put, List.setIfInBounds_toArray, List.set_cons_zero, List.set_cons_succ])
            refine wpAnyN_take false (i := 6) (oi := ⟨some 34, _, _, _, _, _⟩) (v := ?_) rfl (by kernel_rfl) (by kernel_rfl) (by kernel_rfl) (fun _ _ _ h => h) (Or.inl ⟨by kernel_rfl, ?_⟩) ⟨HSE2.out _ hka, fun h => (by cases h)⟩ ?_
            rotate_left
            · (intro w hSw; obtain ⟨hSa, hSb⟩ := hSw; clear hSb; (try dsimp only at hSa); go_simp; try with_reducible rfl)
            (try simp only [Act.put, List.setIfInBounds_toArray, List.set_cons_zero, List.set_cons_succ])
            refine wpAnyN_take false (i := 7) (oi := ⟨some 41, _, _, _, _, _⟩) (v := ?_) rfl (by kernel_rfl) (by kernel_rfl) (by kernel_rfl) (fun _ _ _ h => h) (Or.inl ⟨by kernel_rfl, ?_⟩) ⟨HSE2.out _ hka, fun h => (by cases h)⟩ ?_
            rotate_left
            · (intro w hSw; obtain ⟨hSa, hSb⟩ := hSw; clear hSb; (try dsimp only at hSa); go_simp; try with_reducible rfl)
            (try simp only [Act.put, List.setIfInBounds_toArray, List.set_cons_zero, List.set_cons_succ])
            refine wpAnyN_take false (i := 8) (oi := ⟨some 42, _, _, _, _, _⟩) (v := ?_) rfl (by kernel_rfl) (by kernel_rfl) (by kernel_rfl) (fun _ _ _ h => h) (Or.inl ⟨by kernel_rfl, ?_⟩) ⟨HSE2.out _ hka, fun h => (by cases h)⟩ ?_
            rotate_left
            · (intro w hSw; obtain ⟨hSa, hSb⟩ := hSw; clear hSb; (try dsimp only at hSa); go_simp; try with_reducible rfl)
            (try simp only [Act.put, List.setIfInBounds_toArray, List.set_cons_zero, List.set_cons_succ])
            refine wpAnyN_step (i := 9) (by kernel_rfl) rfl (by kernel_rfl) ?_
            intro K' hK
            (try simp only [Act.put, List.setIfInBounds_toArray, List.set_cons_zero, List.set_cons_succ])
            obtain ⟨wz, N, hwz, hN, hNl, hbz, hnz⟩ := box_any wa #[.int .i64 0, .int .i64 0, .int .i64 0, .slice none 0 0] 37
            go_simp
            have hkz := hka.trans (hbz.mono hka.size)
            have hNlo : wX.heap.size ≤ N := by have := hka.size; omega
            refine hK.out _ _ (HSE2.out _ hkz) (fun _ _ => trivial) ?_
            clear hK K'
            (try simp only [Act.put, List.setIfInBounds_toArray, List.set_cons_zero, List.set_cons_succ])
            have hpa : PcsIn (fun b => b < w2.heap.size) wa (.slice A n c) (o2.getD zeroPl).ps := ⟨A, c, by rw [hn], hq1, hq2, hq3⟩
            have hpz : PcsIn (fun b => b ≠ N) wz (.slice A n c) (o2.getD zeroPl).ps := (hpa.mono fun b _ hg => by have := HKX2.out.size; omega).keep hbz
            refine wpAnyN_step (i := 10) (by kernel_rfl) rfl (by kernel_rfl) ?_
            intro K' hK
            (try simp only [Act.put, List.setIfInBounds_toArray, List.set_cons_zero, List.set_cons_succ])
            refine wp_store_row _ _ _ rfl N #[.int .i64 (o2.getD zeroPl).u, .int .i64 (o2.getD zeroPl).s, .int .i64 (o2.getD zeroPl).c, .slice A n c] (by simp [Act.eval, Act.put]) (by simp [Act.eval, Act.put]) 37 #[.int .i64 0, .int .i64 0, .int .i64 0, .slice none 0 0] hnz (Try.sizePl _ _ _ _) rfl (one4 _ _ _ _ _ _) ?_
            have hkF : Below wX.heap.size wX (wz.setRow N #[.int .i64 (o2.getD zeroPl).u, .int .i64 (o2.getD zeroPl).s, .int .i64 (o2.getD zeroPl).c, .slice A n c]) := below_row16 hkz hNlo _
            refine hK.out _ _ (HSE2.out _ hkF) (fun _ _ => trivial) ?_
            clear hK K'
            (try simp only [Act.put, List.setIfInBounds_toArray, List.set_cons_zero, List.set_cons_succ])
            refine wpAnyN_take false (i := 11) (oi := ⟨some 13, _, _, _, _, _⟩) (v := ?_) rfl (by kernel_rfl) (by kernel_rfl) (by kernel_rfl) (fun _ _ _ h => h) (Or.inl ⟨by kernel_rfl, ?_⟩) ⟨HSE2.out _ hkF, fun h => (by cases h)⟩ ?_
            rotate_left
            · (intro w hSw; obtain ⟨hSa, hSb⟩ := hSw; clear hSb; (try dsimp only at hSa); go_simp; try with_reducible rfl)
            (try simp only [Act.put, List.setIfInBounds_toArray, List.set_cons_zero, List.set_cons_succ])
            refine wpAnyN_done (by kernel_rfl) ?_
            go_wp2_with fail
            go_meet
            exact ⟨N, A, n, c, rfl, rfl, Lib.hid hNlo, Lib.hid (setRow_heap _ _ _ _ _ _ hnz), Lib.hid (PcsIn.setRow hpz (.inl fun h => h rfl)).any, Lib.hid hkF⟩
          · intro K' hK
            (try simp only [Act.put, List.setIfInBounds_toArray, List.set_cons_zero, List.set_cons_succ])
            obtain ⟨wy, N, hwz, hN, hNl, hby, hny⟩ := box_any wX.drew #[.int .i64 0, .int .i64 0, .int .i64 0, .slice none 0 0] 37
            go_simp
            have hky := hkd.trans (hby.mono hkd.size)
            have hNlo : wX.heap.size ≤ N := by have := hkd.size; omega
            refine hK.out _ _ (HSE2.out _ hky) (fun _ _ => trivial) ?_
            clear hK K'
            (try simp only [Act.put, List.setIfInBounds_toArray, List.set_cons_zero, List.set_cons_succ])
            refine wpAnyN_step (i := 5) (by kernel_rfl) rfl (by kernel_rfl) ?_
            intro K' hK
            (try simp only [Act.put, List.setIfInBounds_toArray, List.set_cons_zero, List.set_cons_succ])
            go_simp
            go_at_call 18; refine (HF2.out _ (HKX2.out.trans (hky.mono HKX2.out.size))).mono ?_; rintro e wa ⟨va, rfl, hpa, hba⟩
            obtain ⟨A, c, rfl, hq1, hq2, hq3⟩ := hpa
            obtain ⟨n, hn⟩ : ∃ n, (o2.getD zeroPl).ps.length = n := ⟨_, rfl⟩
            rw [hn]
            have hkz := hky.trans (hba.mono hky.size)
            refine hK.out _ _ (HSE2.out _ hkz) (fun _ _ => trivial) ?_
            clear hK K'
            (try simp only [Act.put, List.setIfInBounds_toArray, List.set_cons_zero, List.set_cons_succ])
            refine wpAnyN_take false (i := 6) (oi := ⟨some 34, _, _, _, _, _⟩) (v := ?_) rfl (by kernel_rfl) (by kernel_rfl) (by kernel_rfl) (fun _ _ _ h => h) (Or.inl ⟨by kernel_rfl, ?_⟩) ⟨HSE2.out _ hkz, fun h => (by cases h)⟩ ?_
            rotate_left
            · (intro w hSw; obtain ⟨hSa, hSb⟩ := hSw; clear hSb; (try dsimp only at hSa); go_simp; try with_reducible rfl)
            (try simp only [Act.put, List.setIfInBounds_toArray, List.set_cons_zero, List.set_cons_succ])
            refine wpAnyN_take false (i := 7) (oi := ⟨some 41, _, _, _, _, _⟩) (v := ?_) rfl (by kernel_rfl) (by kernel_rfl) (by kernel_rfl) (fun _ _ _ h => h) (Or.inl ⟨by kernel_rfl, ?_⟩) ⟨HSE2.out _ hkz, fun h => (by cases h)⟩ ?_
            rotate_left
            · (intro w hSw; obtain ⟨hSa, hSb⟩ := hSw; clear hSb; (try dsimp only at hSa); go_simp; try with_reducible rfl)
            (try simp only [Act.put, List.setIfInBounds_toArray, List.set_cons_zero, List.set_cons_succ])
            refine wpAnyN_take false (i := 8) (oi := ⟨some 42, _, _, _, _, _⟩) (v := ?_) rfl (by kernel_rfl) (by kernel_rfl) (by kernel_rfl) (fun _ _ _ h => h) (Or.inl ⟨by kernel_rfl, ?_⟩) ⟨HSE2.out _ hkz, fun h => (by cases h)⟩ ?_
            rotate_left
            · (intro w hSw; obtain ⟨hSa, hSb⟩ := hSw; clear hSb; (try dsimp only at hSa); go_simp; try with_reducible rfl)
            (try simp only [Act.put, List.setIfInBounds_toArray, List.set_cons_zero, List.set_cons_succ])
            obtain ⟨wz, hwz2⟩ : ∃ wz, wz = wa := ⟨_, rfl⟩
            subst hwz2
            have hnz := keep_block hny hba
            have hpa : PcsIn (fun b => b < w2.heap.size) wz (.slice A n c) (o2.getD zeroPl).ps := ⟨A, c, by rw [hn], hq1, hq2, hq3⟩
            have hpz : PcsIn (fun b => b ≠ N) wz (.slice A n c) (o2.getD zeroPl).ps := hpa.mono fun b _ hg => by have := HKX2.out.size; omega
            refine wpAnyN_step (i := 10) (by kernel_rfl) rfl (by kernel_rfl) ?_
            intro K' hK
            (try simp only [Act.put, List.setIfInBounds_toArray, List.set_cons_zero, List.set_cons_succ])
            refine wp_store_row _ _ _ rfl N #[.int .i64 (o2.getD zeroPl).u, .int .i64 (o2.getD zeroPl).s, .int .i64 (o2.getD zeroPl).c, .slice A n c] (by simp [Act.eval, Act.put]) (by simp [Act.eval, Act.put]) 37 #[.int .i64 0, .int .i64 0, .int .i64 0, .slice none 0 0] hnz (Try.sizePl _ _ _ _) rfl (one4 _ _ _ _ _ _) ?_
            have hkF : Below wX.heap.size wX (wz.setRow N #[.int .i64 (o2.getD zeroPl).u, .int .i64 (o2.getD zeroPl).s, .int .i64 (o2.getD zeroPl).c, .slice A n c]) := below_row16 hkz hNlo _
            refine hK.out _ _ (HSE2.out _ hkF) (fun _ _ => trivial) ?_
            clear hK K'
            (try simp only [Act.put, List.setIfInBounds_toArray, List.set_cons_zero, List.set_cons_succ])
            refine wpAnyN_take false (i := 11) (oi := ⟨some 13, _, _, _, _, _⟩) (v := ?_) rfl (by kernel_rfl) (by kernel_rfl) (by kernel_rfl) (fun _ _ _ h => h) (Or.inl ⟨by kernel_rfl, ?_⟩) ⟨HSE2.out _ hkF, fun h => (by cases h)⟩ ?_
            rotate_left
            · (intro w hSw; obtain ⟨hSa, hSb⟩ := hSw; clear hSb; (try dsimp only at hSa); go_simp; try with_reducible rfl)
            (try simp only [Act.put, List.setIfInBounds_toArray, List.set_cons_zero, List.set_cons_succ])
            refine wpAnyN_done (by kernel_rfl) ?_
            go_wp2_with fail
            go_meet
            exact ⟨N, A, n, c, rfl, rfl, Lib.hid hNlo, Lib.hid (setRow_heap _ _ _ _ _ _ hnz), Lib.hid (PcsIn.setRow hpz (.inl fun h => h rfl)).any, Lib.hid hkF⟩
        case rest =>
          obtain ⟨N2, A2, n2, d2, rfl, rfl, HNL2, HX2, HPX2, HKY⟩ := hcut
          obtain ⟨wY, hwY⟩ : ∃ w, w = wc := ⟨_, rfl⟩
          subst hwY
          have HKR : Hid (Below wr.heap.size wr wY) := Lib.hid (HKX.out.trans (HKY.out.mono HKX.out.size))
          have HX1Y := Lib.hid (keep_block HX1.out HKY.out)
          have HP1Y := Lib.hid (HPX1.out.keep HKY.out)
          have HPO1 : Hid (PlOk (o1.getD zeroPl) ∧ (o1.getD zeroPl).ps.length ≤ 1000) := Lib.hid (by have := placeU_ok HLL.out.1 un; unfold placeU at this; rwa [HO1.out] at this)
          have HPO2 : Hid (PlOk (o2.getD zeroPl) ∧ (o2.getD zeroPl).ps.length ≤ 1000) := Lib.hid (by have := placeU_ok HLL.out.2 un; unfold placeU at this; rwa [HO2.out] at this)
          have HKI : Hid (∀ k, kindB k la lb un = match k with | 0 => o1.isSome && o2.isSome && movedB (o1.getD zeroPl) (o2.getD zeroPl) | 1 => !o1.isSome | 2 => !o2.isSome | 3 => o1.isSome && o2.isSome && decide ((o1.getD zeroPl).s ≠ (o2.getD zeroPl).s) | _ => !decide (o1.getD zeroPl = o2.getD zeroPl)) := Lib.hid (fun k => by
            unfold kindB inU placeU
            rw [HO1.out, HO2.out]
            rcases k with _ | _ | _ | _ | k <;> rfl)
          have HSUC : Hid (listP k la lb (i + 1) = if kindB k la lb un = true then listP k la lb i ++ [un] else listP k la lb i) := Lib.hid (listP_succ (by rw [HXS.out]; exact HU.out))
          have HLE := Lib.hid (listP_le k la lb i)
          have HMV := Lib.hid (fun W (hk : Below wY.heap.size wY W) => refMovedU_any (.slice A1 n1 d1) (.slice A2 n2 d2) (o1.getD zeroPl) (o2.getD zeroPl) W (HP1Y.out.keep hk) (HPX2.out.keep hk) HPO1.out.2 HPO2.out.2 HPO1.out.1.2.2.2 HPO2.out.1.2.2.2)
          have HSM := Lib.hid (fun W (hk : Below wY.heap.size wY W) => refSamePlace_any (.slice A1 n1 d1) (.slice A2 n2 d2) (o1.getD zeroPl) (o2.getD zeroPl) W (HP1Y.out.keep hk) (HPX2.out.keep hk))
          unfold plA at HMV HSM
          generalize o1.getD zeroPl = x at *
          generalize o2.getD zeroPl = y at *
          generalize o1.isSome = b1 at *
          generalize o2.isSome = b2 at *
          obtain ⟨q0, q1, q2, q3⟩ := four_heads HX1Y.out
          obtain ⟨p0, p1, p2, p3⟩ := four_heads HX2.out
          have HY0 := Lib.hid (Below.refl wY.heap.size wY)
          have hk5 : k = 0 ∨ k = 1 ∨ k = 2 ∨ k = 3 ∨ k = 4 := by omega
          rcases hk5 with rfl | rfl | rfl | rfl | rfl
          · cases b1 with
            | false =>
            have HKN : Hid (Below w2.heap.size w2 wY) := Lib.hid (HKW.out.trans ((HKR.out).mono HKW.out.size))
            have HVN := Lib.hid (HVR.out.keep (HKR.out))
            have HSN : Hid (w3.heap.size ≤ wY.heap.size) := Lib.hid (Nat.le_trans HSZ.out (HKR.out).size)
            have HON : Hid (wY.ownsRow w2.heap.size 3 1 u7 (listP 0 la lb (i + 1)).length ((listP 0 la lb (i + 1)).map (Value.int .i64))) := Lib.hid (by
              rw [HSUC.out, if_neg (by rw [HKI.out]; simp)]
              exact own_below5 HO.out (HKR.out))
            go_wp2_with fail
            rw [← hA2]
            go_roundg (nx - (i + 1))
            case measure => have := HG.out; omega
            case rel => exact ⟨i + 1, by omega, rfl, by go_num, HKN, HVN, HSN, HON, HF7⟩
            | true =>
              cases b2 with
              | false =>
              have HKN : Hid (Below w2.heap.size w2 wY) := Lib.hid (HKW.out.trans ((HKR.out).mono HKW.out.size))
              have HVN := Lib.hid (HVR.out.keep (HKR.out))
              have HSN : Hid (w3.heap.size ≤ wY.heap.size) := Lib.hid (Nat.le_trans HSZ.out (HKR.out).size)
              have HON : Hid (wY.ownsRow w2.heap.size 3 1 u7 (listP 0 la lb (i + 1)).length ((listP 0 la lb (i + 1)).map (Value.int .i64))) := Lib.hid (by
                rw [HSUC.out, if_neg (by rw [HKI.out]; simp)]
                exact own_below5 HO.out (HKR.out))
              go_wp2_with fail
              rw [← hA2]
              go_roundg (nx - (i + 1))
              case measure => have := HG.out; omega
              case rel => exact ⟨i + 1, by omega, rfl, by go_num, HKN, HVN, HSN, HON, HF7⟩
              | true =>
                obtain ⟨q, hq⟩ : ∃ q, movedB x y = q := ⟨_, rfl⟩
                have HQ := Lib.hid hq
                rw [hq] at HMV
                clear hq
                go_wp2_with fail
                refine (HMV.out _ HY0.out).mono ?_
                rintro e wZ ⟨rfl, hbZ⟩
                have HZ := Lib.hid hbZ
                clear hbZ
                cases q with
                | false =>
                  have HKN : Hid (Below w2.heap.size w2 wZ) := Lib.hid (HKW.out.trans ((HKR.out.trans (HZ.out.mono HKR.out.size)).mono HKW.out.size))
                  have HVN := Lib.hid (HVR.out.keep (HKR.out.trans (HZ.out.mono HKR.out.size)))
                  have HSN : Hid (w3.heap.size ≤ wZ.heap.size) := Lib.hid (Nat.le_trans HSZ.out (HKR.out.trans (HZ.out.mono HKR.out.size)).size)
                  have HON : Hid (wZ.ownsRow w2.heap.size 3 1 u7 (listP 0 la lb (i + 1)).length ((listP 0 la lb (i + 1)).map (Value.int .i64))) := Lib.hid (by
                    rw [HSUC.out, if_neg (by rw [HKI.out]; show ¬ (true && true && movedB x y) = true; rw [HQ.out]; decide)]
                    exact own_below5 HO.out (HKR.out.trans (HZ.out.mono HKR.out.size)))
                  go_wp2_with fail
                  rw [← hA2]
                  go_roundg (nx - (i + 1))
                  case measure => have := HG.out; omega
                  case rel => exact ⟨i + 1, by omega, rfl, by go_num, HKN, HVN, HSN, HON, HF7⟩
                | true =>
                  have HKN : Hid (Below w2.heap.size w2 wZ) := Lib.hid (HKW.out.trans ((HKR.out.trans (HZ.out.mono HKR.out.size)).mono HKW.out.size))
                  have HVN := Lib.hid (HVR.out.keep (HKR.out.trans (HZ.out.mono HKR.out.size)))
                  have HSN : Hid (w3.heap.size ≤ wZ.heap.size) := Lib.hid (Nat.le_trans HSZ.out (HKR.out.trans (HZ.out.mono HKR.out.size)).size)
                  have HOF : Hid (wZ.ownsRow w2.heap.size 3 1 u7 (listP 0 la lb i).length ((listP 0 la lb i).map (Value.int .i64))) := Lib.hid (own_below5 HO.out (HKR.out.trans (HZ.out.mono HKR.out.size)))
                  have HU1 : Hid (listP 0 la lb (i + 1) = listP 0 la lb i ++ [un]) := Lib.hid (by rw [HSUC.out, if_pos (by rw [HKI.out]; show (true && true && movedB x y) = true; rw [HQ.out]; rfl)])
                  have e0 := HCE.out _ (HKR.out.trans (HZ.out.mono HKR.out.size))
                  have hsz := HKN.out.size
                  go_wp2_with (at_builtin; refine wpList_append_own_at _ rfl _ _ 29 rfl w2.heap.size 3 i0 (.int .i64 0) 1 8 Try.underlying29 hi0' hz0 hz1 hz2 rfl (by decide) _ _ _ rfl (HOF.out.alloc _) ⟨wZ.heap.size, 0, none⟩ 1 1 [.int .i64 un] rfl rfl ?c1 ?c2 ?c3 ?c4 ?c5 ?_)
                  case c1 =>
                    intro j u hj
                    rcases j with _ | j
                    · simpa [Addr.add] using hj
                    · simp at hj
                  case c2 => intro u hu; simp at hu; subst hu; rfl
                  case c3 => have := HLE.out; unfold maxLen; omega
                  case c4 => have := HLE.out; omega
                  case c5 => simp; omega
                  intro v9 w9 hown9 hgrow9 _ hat9
                  have HB9 : Hid (Below w2.heap.size w2 w9) := Lib.hid ((HKN.out.alloc HKN.out.size _).trans (below_grown4 hgrow9 (by simp; omega) (own_base4 HOF.out)))
                  have HV9 : Hid (IntsAt w9 (.slice A3 nx c3) xs) := Lib.hid ((HVN.out.keep ((Below.refl _ _).alloc (Nat.le_refl _) _)).apart22 (F := fun b => u7.ownBlock = some b) (fun j hj hu => by
                    have h7 := HF7.out j hu
                    have h8 := HF3.out j hj (by omega)
                    omega) ⟨hgrow9.os, hgrow9.tape, hgrow9.output, hgrow9.size, fun b hb hne => hgrow9.block b hb fun e => hne e.symm⟩)
                  have HS9 : Hid (w3.heap.size ≤ w9.heap.size) := Lib.hid (by have h1 := hgrow9.size; have h2 := HSN.out; simp at h1; omega)
                  have HF9 : Hid (∀ b, v9.ownBlock = some b → b = w2.heap.size ∨ w3.heap.size ≤ b) := Lib.hid (fun b hb => by
                    rcases hat9 with h | h
                    · rw [h] at hb; exact HF7.out b hb
                    · rw [h] at hb
                      have h1 := Option.some.inj hb
                      have h2 := HSN.out
                      (try simp at h1)
                      omega)
                  have HO9 : Hid (w9.ownsRow w2.heap.size 3 1 v9 (listP 0 la lb (i + 1)).length ((listP 0 la lb (i + 1)).map (Value.int .i64))) := Lib.hid (by
                    rw [HU1.out, List.length_append, List.map_append]
                    exact hown9)
                  clear hown9 hgrow9 hsz hat9
                  go_wp2
                  rw [← hA2]
                  go_roundg (nx - (i + 1))
                  case measure => have := HG.out; omega
                  case rel => exact ⟨i + 1, by omega, rfl, by go_num, HB9, HV9, HS9, HO9, HF9⟩
          · cases b1 with
            | false =>
              have HKN : Hid (Below w2.heap.size w2 wY) := Lib.hid (HKW.out.trans ((HKR.out).mono HKW.out.size))
              have HVN := Lib.hid (HVR.out.keep (HKR.out))
              have HSN : Hid (w3.heap.size ≤ wY.heap.size) := Lib.hid (Nat.le_trans HSZ.out (HKR.out).size)
              have HOF : Hid (wY.ownsRow w2.heap.size 3 1 u7 (listP 1 la lb i).length ((listP 1 la lb i).map (Value.int .i64))) := Lib.hid (own_below5 HO.out (HKR.out))
              have HU1 : Hid (listP 1 la lb (i + 1) = listP 1 la lb i ++ [un]) := Lib.hid (by rw [HSUC.out, if_pos (by rw [HKI.out]; rfl)])
              have e0 := HCE.out _ (HKR.out)
              have hsz := HKN.out.size
              go_wp2_with (at_builtin; refine wpList_append_own_at _ rfl _ _ 29 rfl w2.heap.size 3 i0 (.int .i64 0) 1 8 Try.underlying29 hi0' hz0 hz1 hz2 rfl (by decide) _ _ _ rfl (HOF.out.alloc _) ⟨wY.heap.size, 0, none⟩ 1 1 [.int .i64 un] rfl rfl ?c1 ?c2 ?c3 ?c4 ?c5 ?_)
              case c1 =>
                intro j u hj
                rcases j with _ | j
                · simpa [Addr.add] using hj
                · simp at hj
              case c2 => intro u hu; simp at hu; subst hu; rfl
              case c3 => have := HLE.out; unfold maxLen; omega
              case c4 => have := HLE.out; omega
              case c5 => simp; omega
              intro v9 w9 hown9 hgrow9 _ hat9
              have HB9 : Hid (Below w2.heap.size w2 w9) := Lib.hid ((HKN.out.alloc HKN.out.size _).trans (below_grown4 hgrow9 (by simp; omega) (own_base4 HOF.out)))
              have HV9 : Hid (IntsAt w9 (.slice A3 nx c3) xs) := Lib.hid ((HVN.out.keep ((Below.refl _ _).alloc (Nat.le_refl _) _)).apart22 (F := fun b => u7.ownBlock = some b) (fun j hj hu => by
                have h7 := HF7.out j hu
                have h8 := HF3.out j hj (by omega)
                omega) ⟨hgrow9.os, hgrow9.tape, hgrow9.output, hgrow9.size, fun b hb hne => hgrow9.block b hb fun e => hne e.symm⟩)
              have HS9 : Hid (w3.heap.size ≤ w9.heap.size) := Lib.hid (by have h1 := hgrow9.size; have h2 := HSN.out; simp at h1; omega)
              have HF9 : Hid (∀ b, v9.ownBlock = some b → b = w2.heap.size ∨ w3.heap.size ≤ b) := Lib.hid (fun b hb => by
                rcases hat9 with h | h
                · rw [h] at hb; exact HF7.out b hb
                · rw [h] at hb
                  have h1 := Option.some.inj hb
                  have h2 := HSN.out
                  (try simp at h1)
                  omega)
              have HO9 : Hid (w9.ownsRow w2.heap.size 3 1 v9 (listP 1 la lb (i + 1)).length ((listP 1 la lb (i + 1)).map (Value.int .i64))) := Lib.hid (by
                rw [HU1.out, List.length_append, List.map_append]
                exact hown9)
              clear hown9 hgrow9 hsz hat9
              go_wp2
              rw [← hA2]
              go_roundg (nx - (i + 1))
              case measure => have := HG.out; omega
              case rel => exact ⟨i + 1, by omega, rfl, by go_num, HB9, HV9, HS9, HO9, HF9⟩
            | true =>
              have HKN : Hid (Below w2.heap.size w2 wY) := Lib.hid (HKW.out.trans ((HKR.out).mono HKW.out.size))
              have HVN := Lib.hid (HVR.out.keep (HKR.out))
              have HSN : Hid (w3.heap.size ≤ wY.heap.size) := Lib.hid (Nat.le_trans HSZ.out (HKR.out).size)
              have HON : Hid (wY.ownsRow w2.heap.size 3 1 u7 (listP 1 la lb (i + 1)).length ((listP 1 la lb (i + 1)).map (Value.int .i64))) := Lib.hid (by
                rw [HSUC.out, if_neg (by rw [HKI.out]; show ¬ (!true) = true; decide)]
                exact own_below5 HO.out (HKR.out))
              go_wp2_with fail
              rw [← hA2]
              go_roundg (nx - (i + 1))
              case measure => have := HG.out; omega
              case rel => exact ⟨i + 1, by omega, rfl, by go_num, HKN, HVN, HSN, HON, HF7⟩
          · cases b2 with
            | false =>
              have HKN : Hid (Below w2.heap.size w2 wY) := Lib.hid (HKW.out.trans ((HKR.out).mono HKW.out.size))
              have HVN := Lib.hid (HVR.out.keep (HKR.out))
              have HSN : Hid (w3.heap.size ≤ wY.heap.size) := Lib.hid (Nat.le_trans HSZ.out (HKR.out).size)
              have HOF : Hid (wY.ownsRow w2.heap.size 3 1 u7 (listP 2 la lb i).length ((listP 2 la lb i).map (Value.int .i64))) := Lib.hid (own_below5 HO.out (HKR.out))
              have HU1 : Hid (listP 2 la lb (i + 1) = listP 2 la lb i ++ [un]) := Lib.hid (by rw [HSUC.out, if_pos (by rw [HKI.out]; rfl)])
              have e0 := HCE.out _ (HKR.out)
              have hsz := HKN.out.size
              go_wp2_with (at_builtin; refine wpList_append_own_at _ rfl _ _ 29 rfl w2.heap.size 3 i0 (.int .i64 0) 1 8 Try.underlying29 hi0' hz0 hz1 hz2 rfl (by decide) _ _ _ rfl (HOF.out.alloc _) ⟨wY.heap.size, 0, none⟩ 1 1 [.int .i64 un] rfl rfl ?c1 ?c2 ?c3 ?c4 ?c5 ?_)
              case c1 =>
                intro j u hj
                rcases j with _ | j
                · simpa [Addr.add] using hj
                · simp at hj
              case c2 => intro u hu; simp at hu; subst hu; rfl
              case c3 => have := HLE.out; unfold maxLen; omega
              case c4 => have := HLE.out; omega
              case c5 => simp; omega
              intro v9 w9 hown9 hgrow9 _ hat9
              have HB9 : Hid (Below w2.heap.size w2 w9) := Lib.hid ((HKN.out.alloc HKN.out.size _).trans (below_grown4 hgrow9 (by simp; omega) (own_base4 HOF.out)))
              have HV9 : Hid (IntsAt w9 (.slice A3 nx c3) xs) := Lib.hid ((HVN.out.keep ((Below.refl _ _).alloc (Nat.le_refl _) _)).apart22 (F := fun b => u7.ownBlock = some b) (fun j hj hu => by
                have h7 := HF7.out j hu
                have h8 := HF3.out j hj (by omega)
                omega) ⟨hgrow9.os, hgrow9.tape, hgrow9.output, hgrow9.size, fun b hb hne => hgrow9.block b hb fun e => hne e.symm⟩)
              have HS9 : Hid (w3.heap.size ≤ w9.heap.size) := Lib.hid (by have h1 := hgrow9.size; have h2 := HSN.out; simp at h1; omega)
              have HF9 : Hid (∀ b, v9.ownBlock = some b → b = w2.heap.size ∨ w3.heap.size ≤ b) := Lib.hid (fun b hb => by
                rcases hat9 with h | h
                · rw [h] at hb; exact HF7.out b hb
                · rw [h] at hb
                  have h1 := Option.some.inj hb
                  have h2 := HSN.out
                  (try simp at h1)
                  omega)
              have HO9 : Hid (w9.ownsRow w2.heap.size 3 1 v9 (listP 2 la lb (i + 1)).length ((listP 2 la lb (i + 1)).map (Value.int .i64))) := Lib.hid (by
                rw [HU1.out, List.length_append, List.map_append]
                exact hown9)
              clear hown9 hgrow9 hsz hat9
              go_wp2
              rw [← hA2]
              go_roundg (nx - (i + 1))
              case measure => have := HG.out; omega
              case rel => exact ⟨i + 1, by omega, rfl, by go_num, HB9, HV9, HS9, HO9, HF9⟩
            | true =>
              have HKN : Hid (Below w2.heap.size w2 wY) := Lib.hid (HKW.out.trans ((HKR.out).mono HKW.out.size))
              have HVN := Lib.hid (HVR.out.keep (HKR.out))
              have HSN : Hid (w3.heap.size ≤ wY.heap.size) := Lib.hid (Nat.le_trans HSZ.out (HKR.out).size)
              have HON : Hid (wY.ownsRow w2.heap.size 3 1 u7 (listP 2 la lb (i + 1)).length ((listP 2 la lb (i + 1)).map (Value.int .i64))) := Lib.hid (by
                rw [HSUC.out, if_neg (by rw [HKI.out]; show ¬ (!true) = true; decide)]
                exact own_below5 HO.out (HKR.out))
              go_wp2_with fail
              rw [← hA2]
              go_roundg (nx - (i + 1))
              case measure => have := HG.out; omega
              case rel => exact ⟨i + 1, by omega, rfl, by go_num, HKN, HVN, HSN, HON, HF7⟩
          · cases b1 with
            | false =>
            have HKN : Hid (Below w2.heap.size w2 wY) := Lib.hid (HKW.out.trans ((HKR.out).mono HKW.out.size))
            have HVN := Lib.hid (HVR.out.keep (HKR.out))
            have HSN : Hid (w3.heap.size ≤ wY.heap.size) := Lib.hid (Nat.le_trans HSZ.out (HKR.out).size)
            have HON : Hid (wY.ownsRow w2.heap.size 3 1 u7 (listP 3 la lb (i + 1)).length ((listP 3 la lb (i + 1)).map (Value.int .i64))) := Lib.hid (by
              rw [HSUC.out, if_neg (by rw [HKI.out]; simp)]
              exact own_below5 HO.out (HKR.out))
            go_wp2_with fail
            rw [← hA2]
            go_roundg (nx - (i + 1))
            case measure => have := HG.out; omega
            case rel => exact ⟨i + 1, by omega, rfl, by go_num, HKN, HVN, HSN, HON, HF7⟩
            | true =>
              cases b2 with
              | false =>
              have HKN : Hid (Below w2.heap.size w2 wY) := Lib.hid (HKW.out.trans ((HKR.out).mono HKW.out.size))
              have HVN := Lib.hid (HVR.out.keep (HKR.out))
              have HSN : Hid (w3.heap.size ≤ wY.heap.size) := Lib.hid (Nat.le_trans HSZ.out (HKR.out).size)
              have HON : Hid (wY.ownsRow w2.heap.size 3 1 u7 (listP 3 la lb (i + 1)).length ((listP 3 la lb (i + 1)).map (Value.int .i64))) := Lib.hid (by
                rw [HSUC.out, if_neg (by rw [HKI.out]; simp)]
                exact own_below5 HO.out (HKR.out))
              go_wp2_with fail
              rw [← hA2]
              go_roundg (nx - (i + 1))
              case measure => have := HG.out; omega
              case rel => exact ⟨i + 1, by omega, rfl, by go_num, HKN, HVN, HSN, HON, HF7⟩
              | true =>
                by_cases hs : x.s = y.s
                · have hsb : (x.s != y.s) = false := by simp [hs]
                  have HNS : Hid (decide (x.s ≠ y.s) = false) := Lib.hid (by simp [hs])
                  have HKN : Hid (Below w2.heap.size w2 wY) := Lib.hid (HKW.out.trans ((HKR.out).mono HKW.out.size))
                  have HVN := Lib.hid (HVR.out.keep (HKR.out))
                  have HSN : Hid (w3.heap.size ≤ wY.heap.size) := Lib.hid (Nat.le_trans HSZ.out (HKR.out).size)
                  have HON : Hid (wY.ownsRow w2.heap.size 3 1 u7 (listP 3 la lb (i + 1)).length ((listP 3 la lb (i + 1)).map (Value.int .i64))) := Lib.hid (by
                    rw [HSUC.out, if_neg (by rw [HKI.out]; show ¬ (true && true && decide (x.s ≠ y.s)) = true; rw [HNS.out]; decide)]
                    exact own_below5 HO.out (HKR.out))
                  go_wp2_with fail
                  rw [← hA2]
                  go_roundg (nx - (i + 1))
                  case measure => have := HG.out; omega
                  case rel => exact ⟨i + 1, by omega, rfl, by go_num, HKN, HVN, HSN, HON, HF7⟩
                · have hsb : (x.s != y.s) = true := by simp [hs]
                  have HNS : Hid (decide (x.s ≠ y.s) = true) := Lib.hid (by simp [hs])
                  have HKN : Hid (Below w2.heap.size w2 wY) := Lib.hid (HKW.out.trans ((HKR.out).mono HKW.out.size))
                  have HVN := Lib.hid (HVR.out.keep (HKR.out))
                  have HSN : Hid (w3.heap.size ≤ wY.heap.size) := Lib.hid (Nat.le_trans HSZ.out (HKR.out).size)
                  have HOF : Hid (wY.ownsRow w2.heap.size 3 1 u7 (listP 3 la lb i).length ((listP 3 la lb i).map (Value.int .i64))) := Lib.hid (own_below5 HO.out (HKR.out))
                  have HU1 : Hid (listP 3 la lb (i + 1) = listP 3 la lb i ++ [un]) := Lib.hid (by rw [HSUC.out, if_pos (by rw [HKI.out]; show (true && true && decide (x.s ≠ y.s)) = true; rw [HNS.out]; rfl)])
                  have e0 := HCE.out _ (HKR.out)
                  have hsz := HKN.out.size
                  go_wp2_with (at_builtin; refine wpList_append_own_at _ rfl _ _ 29 rfl w2.heap.size 3 i0 (.int .i64 0) 1 8 Try.underlying29 hi0' hz0 hz1 hz2 rfl (by decide) _ _ _ rfl (HOF.out.alloc _) ⟨wY.heap.size, 0, none⟩ 1 1 [.int .i64 un] rfl rfl ?c1 ?c2 ?c3 ?c4 ?c5 ?_)
                  case c1 =>
                    intro j u hj
                    rcases j with _ | j
                    · simpa [Addr.add] using hj
                    · simp at hj
                  case c2 => intro u hu; simp at hu; subst hu; rfl
                  case c3 => have := HLE.out; unfold maxLen; omega
                  case c4 => have := HLE.out; omega
                  case c5 => simp; omega
                  intro v9 w9 hown9 hgrow9 _ hat9
                  have HB9 : Hid (Below w2.heap.size w2 w9) := Lib.hid ((HKN.out.alloc HKN.out.size _).trans (below_grown4 hgrow9 (by simp; omega) (own_base4 HOF.out)))
                  have HV9 : Hid (IntsAt w9 (.slice A3 nx c3) xs) := Lib.hid ((HVN.out.keep ((Below.refl _ _).alloc (Nat.le_refl _) _)).apart22 (F := fun b => u7.ownBlock = some b) (fun j hj hu => by
                    have h7 := HF7.out j hu
                    have h8 := HF3.out j hj (by omega)
                    omega) ⟨hgrow9.os, hgrow9.tape, hgrow9.output, hgrow9.size, fun b hb hne => hgrow9.block b hb fun e => hne e.symm⟩)
                  have HS9 : Hid (w3.heap.size ≤ w9.heap.size) := Lib.hid (by have h1 := hgrow9.size; have h2 := HSN.out; simp at h1; omega)
                  have HF9 : Hid (∀ b, v9.ownBlock = some b → b = w2.heap.size ∨ w3.heap.size ≤ b) := Lib.hid (fun b hb => by
                    rcases hat9 with h | h
                    · rw [h] at hb; exact HF7.out b hb
                    · rw [h] at hb
                      have h1 := Option.some.inj hb
                      have h2 := HSN.out
                      (try simp at h1)
                      omega)
                  have HO9 : Hid (w9.ownsRow w2.heap.size 3 1 v9 (listP 3 la lb (i + 1)).length ((listP 3 la lb (i + 1)).map (Value.int .i64))) := Lib.hid (by
                    rw [HU1.out, List.length_append, List.map_append]
                    exact hown9)
                  clear hown9 hgrow9 hsz hat9
                  go_wp2
                  rw [← hA2]
                  go_roundg (nx - (i + 1))
                  case measure => have := HG.out; omega
                  case rel => exact ⟨i + 1, by omega, rfl, by go_num, HB9, HV9, HS9, HO9, HF9⟩
          · obtain ⟨q, hq⟩ : ∃ q, decide (x = y) = q := ⟨_, rfl⟩
            have HQ := Lib.hid hq
            rw [hq] at HSM
            clear hq
            go_wp2_with fail
            refine (HSM.out _ HY0.out).mono ?_
            rintro e wZ ⟨rfl, hbZ⟩
            have HZ := Lib.hid hbZ
            clear hbZ
            cases q with
            | true =>
              have HKN : Hid (Below w2.heap.size w2 wZ) := Lib.hid (HKW.out.trans ((HKR.out.trans (HZ.out.mono HKR.out.size)).mono HKW.out.size))
              have HVN := Lib.hid (HVR.out.keep (HKR.out.trans (HZ.out.mono HKR.out.size)))
              have HSN : Hid (w3.heap.size ≤ wZ.heap.size) := Lib.hid (Nat.le_trans HSZ.out (HKR.out.trans (HZ.out.mono HKR.out.size)).size)
              have HON : Hid (wZ.ownsRow w2.heap.size 3 1 u7 (listP 4 la lb (i + 1)).length ((listP 4 la lb (i + 1)).map (Value.int .i64))) := Lib.hid (by
                rw [HSUC.out, if_neg (by rw [HKI.out]; show ¬ (!decide (x = y)) = true; rw [HQ.out]; decide)]
                exact own_below5 HO.out (HKR.out.trans (HZ.out.mono HKR.out.size)))
              go_wp2_with fail
              rw [← hA2]
              go_roundg (nx - (i + 1))
              case measure => have := HG.out; omega
              case rel => exact ⟨i + 1, by omega, rfl, by go_num, HKN, HVN, HSN, HON, HF7⟩
            | false =>
              have HKN : Hid (Below w2.heap.size w2 wZ) := Lib.hid (HKW.out.trans ((HKR.out.trans (HZ.out.mono HKR.out.size)).mono HKW.out.size))
              have HVN := Lib.hid (HVR.out.keep (HKR.out.trans (HZ.out.mono HKR.out.size)))
              have HSN : Hid (w3.heap.size ≤ wZ.heap.size) := Lib.hid (Nat.le_trans HSZ.out (HKR.out.trans (HZ.out.mono HKR.out.size)).size)
              have HOF : Hid (wZ.ownsRow w2.heap.size 3 1 u7 (listP 4 la lb i).length ((listP 4 la lb i).map (Value.int .i64))) := Lib.hid (own_below5 HO.out (HKR.out.trans (HZ.out.mono HKR.out.size)))
              have HU1 : Hid (listP 4 la lb (i + 1) = listP 4 la lb i ++ [un]) := Lib.hid (by rw [HSUC.out, if_pos (by rw [HKI.out]; show (!decide (x = y)) = true; rw [HQ.out]; rfl)])
              have e0 := HCE.out _ (HKR.out.trans (HZ.out.mono HKR.out.size))
              have hsz := HKN.out.size
              go_wp2_with (at_builtin; refine wpList_append_own_at _ rfl _ _ 29 rfl w2.heap.size 3 i0 (.int .i64 0) 1 8 Try.underlying29 hi0' hz0 hz1 hz2 rfl (by decide) _ _ _ rfl (HOF.out.alloc _) ⟨wZ.heap.size, 0, none⟩ 1 1 [.int .i64 un] rfl rfl ?c1 ?c2 ?c3 ?c4 ?c5 ?_)
              case c1 =>
                intro j u hj
                rcases j with _ | j
                · simpa [Addr.add] using hj
                · simp at hj
              case c2 => intro u hu; simp at hu; subst hu; rfl
              case c3 => have := HLE.out; unfold maxLen; omega
              case c4 => have := HLE.out; omega
              case c5 => simp; omega
              intro v9 w9 hown9 hgrow9 _ hat9
              have HB9 : Hid (Below w2.heap.size w2 w9) := Lib.hid ((HKN.out.alloc HKN.out.size _).trans (below_grown4 hgrow9 (by simp; omega) (own_base4 HOF.out)))
              have HV9 : Hid (IntsAt w9 (.slice A3 nx c3) xs) := Lib.hid ((HVN.out.keep ((Below.refl _ _).alloc (Nat.le_refl _) _)).apart22 (F := fun b => u7.ownBlock = some b) (fun j hj hu => by
                have h7 := HF7.out j hu
                have h8 := HF3.out j hj (by omega)
                omega) ⟨hgrow9.os, hgrow9.tape, hgrow9.output, hgrow9.size, fun b hb hne => hgrow9.block b hb fun e => hne e.symm⟩)
              have HS9 : Hid (w3.heap.size ≤ w9.heap.size) := Lib.hid (by have h1 := hgrow9.size; have h2 := HSN.out; simp at h1; omega)
              have HF9 : Hid (∀ b, v9.ownBlock = some b → b = w2.heap.size ∨ w3.heap.size ≤ b) := Lib.hid (fun b hb => by
                rcases hat9 with h | h
                · rw [h] at hb; exact HF7.out b hb
                · rw [h] at hb
                  have h1 := Option.some.inj hb
                  have h2 := HSN.out
                  (try simp at h1)
                  omega)
              have HO9 : Hid (w9.ownsRow w2.heap.size 3 1 v9 (listP 4 la lb (i + 1)).length ((listP 4 la lb (i + 1)).map (Value.int .i64))) := Lib.hid (by
                rw [HU1.out, List.length_append, List.map_append]
                exact hown9)
              clear hown9 hgrow9 hsz hat9
              go_wp2
              rw [← hA2]
              go_roundg (nx - (i + 1))
              case measure => have := HG.out; omega
              case rel => exact ⟨i + 1, by omega, rfl, by go_num, HB9, HV9, HS9, HO9, HF9⟩
    · have hin : i = nx := by omega
      have HR := Lib.hid (ints_of_own HO.out (by have := listP_le k la lb i; omega))
      have HAL : Hid (listP k la lb i = listU k la lb) := Lib.hid (listP_all (by rw [HXS.out, HNX.out]; omega))
      have HBE := Lib.hid (HB2.out.trans (HKW.out.mono HB2.out.size))
      have HFR : Hid (∀ j, u7.ownBlock = some j → w.heap.size ≤ j) := Lib.hid (fun j hj => Nat.le_trans HB2.out.size (own_base4 HO.out j hj))
      go_wp2_with fail
      go_ret
      exact ⟨_, rfl, by rw [← HAL.out]; exact HR.out, HBE.out, HFR.out⟩
end Go.Proofs.Ytincbilobmhgeaa
