/-
  The law of all changes from a plan to another: DiffChanges.
  Conditions: the slices read as places; the numbers are of their kinds.
-/
import Derived.Test.YtincbilobmhgeaaM16
import Derived.Test.YtincbilobmhgeaaM17
import Derived.Test.YtincbilobmhgeaaM24

/-
  The law of all changes from a plan to another: DiffChanges.
  Conditions: the slices read as places; the numbers are of their kinds.
-/
set_option linter.unusedVariables false
set_option linter.unusedSimpArgs false
namespace Go.Proofs.Ytincbilobmhgeaa
open Go.RowKit

set_option maxRecDepth 100000 in
set_option maxHeartbeats 8000000 in
theorem changes_law (f1 f2 : Int) (m1 m2 : Nat) (v1 v2 : Value) (la lb : List Pl) (w : World) (h1 : PlsAt w v1 la) (h2 : PlsAt w v2 lb) (ho1 : ∀ x ∈ la, PlOk x) (ho2 : ∀ x ∈ lb, PlOk x) (hm1 : m1 < 4294967296) (hm2 : m2 < 4294967296) :
    Calls Try.prog 4 #[planA f1 m1 v1, planA f2 m2 v2] w (RetB (.bool true) w) := by
  have mixed : Try.prog.follows .mixedOrders = true := by kernel_rfl
  have HAW := Lib.hid (fun W => awake22_any W)
  obtain ⟨w1, P, hw1, hP, hPl, hb1, hpb⟩ := box_any w #[.int .i64 f1, .int .u32 m1, v1] 25
  obtain ⟨w2, Q, hw2, hQ, hQl, hb2, hqb⟩ := box_any w1 #[.int .i64 f2, .int .u32 m2, v2] 25
  have HB2 := Lib.hid (hb1.trans (hb2.mono hb1.size))
  have HPB := Lib.hid (keep_block hpb hb2)
  have HQB := Lib.hid hqb
  have HSA : Hid (∀ W, Below w2.heap.size w2 W → W.cell? ⟨P, 0, none⟩ = some (.int .i64 f1) ∧ W.cell? ⟨P, 1, none⟩ = some (.int .u32 m1) ∧ W.cell? ⟨P, 2, none⟩ = some v1 ∧ W.cell? ⟨Q, 0, none⟩ = some (.int .i64 f2) ∧ W.cell? ⟨Q, 1, none⟩ = some (.int .u32 m2) ∧ W.cell? ⟨Q, 2, none⟩ = some v2) := Lib.hid (fun W hk => by
    obtain ⟨a, b, c⟩ := three_heads (keep_block HPB.out hk)
    obtain ⟨d, e, f⟩ := three_heads (keep_block HQB.out hk)
    exact ⟨a, b, c, d, e, f⟩)
  have HP1 : Hid (∀ W, Below w2.heap.size w2 W → PlsAt W v1 la) := Lib.hid (fun W hk => h1.keep (HB2.out.trans (hk.mono HB2.out.size)))
  have HP2 : Hid (∀ W, Below w2.heap.size w2 W → PlsAt W v2 lb) := Lib.hid (fun W hk => h2.keep (HB2.out.trans (hk.mono HB2.out.size)))
  have HRI := Lib.hid (fun W hk => calls_iff (right2_any f1 f2 m1 m2 v1 v2 la lb W (HP1.out W hk) (HP2.out W hk) ho1 ho2 hm1 hm2))
  have HK0 := Lib.hid (Below.refl w2.heap.size w2)
  obtain ⟨p0, p1, p2, q0, q1, q2⟩ := HSA.out _ HK0.out
  unfold planA at HRI ⊢
  clear h1 h2 hb1 hb2 hpb hqb
  by_cases hgood : (Lit la ∧ Lit lb) ∧ Right f1 m1 la ∧ Right f2 m2 lb
  · have HRY := Lib.hid (fun W hk => (HRI.out W hk).1 hgood)
    have HL1 := Lib.hid (hgood.1.1.light ho1)
    have HL2 := Lib.hid (hgood.1.2.light ho2)
    have HR1 := Lib.hid hgood.2.1
    have HR2 := Lib.hid hgood.2.2
    have HCX := Lib.hid (fun W hk => diffChangesG_any f1 f2 f1 f2 m1 m2 m1 m2 v1 v2 la lb W (HP1.out W hk) (HP2.out W hk) HL1.out HL2.out HR1.out HR2.out)
    have HLI := Lib.hid (fun W hk => refList_any 4 (by decide) f1 f2 m1 m2 v1 v2 la lb W (HP1.out W hk) (HP2.out W hk) HL1.out HL2.out)
    have HSH := Lib.hid (fun W hk => diffShift_any f1 f2 m1 m2 v1 v2 la lb W (HP1.out W hk) (HP2.out W hk) HL1.out HL2.out HR1.out HR2.out)
    have HRS := Lib.hid (fun W hk => refShift_any f1 f2 m1 m2 v1 v2 la lb W (HP1.out W hk) (HP2.out W hk) HL1.out HL2.out)
    have HG1 : Hid (∀ W, Below w2.heap.size w2 W → PlsIn (fun b => b < w2.heap.size) W v1 la) := Lib.hid (fun W hk => ((PlsIn.mono (HP1.out _ HK0.out) fun b hb _ => hb).keep hk).mono fun b _ hb => hb)
    have HG2 : Hid (∀ W, Below w2.heap.size w2 W → PlsIn (fun b => b < w2.heap.size) W v2 lb) := Lib.hid (fun W hk => ((PlsIn.mono (HP2.out _ HK0.out) fun b hb _ => hb).keep hk).mono fun b _ hb => hb)
    have HF1 := Lib.hid (fun (u : Int) W (hk : Below w2.heap.size w2 W) => refFindG_any _ f1 m1 v1 la u W (HG1.out W hk) (by have := HL1.out.len; omega))
    have HF2 := Lib.hid (fun (u : Int) W (hk : Below w2.heap.size w2 W) => refFindG_any _ f2 m2 v2 lb u W (HG2.out W hk) (by have := HL2.out.len; omega))
    unfold RetCh at HCX
    unfold RetFind plA at HF1 HF2
    have HTX : Hid (∀ (j : Nat) (u : Int), (listU 4 la lb)[j]? = some u → (chgL la lb)[j]? = some (u, placeU la u, placeU lb u)) := Lib.hid (fun j u hj => by unfold chgL; rw [List.getElem?_map, hj]; rfl)
    have hTn : (chgL la lb).length = (listU 4 la lb).length := chgL_length la lb
    have hTm := listU_le 4 la lb
    obtain ⟨T1, hT1⟩ : ∃ T, chgL la lb = T := ⟨_, rfl⟩
    obtain ⟨xs, hxs⟩ : ∃ T, listU 4 la lb = T := ⟨_, rfl⟩
    obtain ⟨st, hst⟩ : ∃ n, shiftT la lb = n := ⟨_, rfl⟩
    rw [hT1] at HCX HTX hTn
    rw [hxs] at HLI HTX hTn hTm
    rw [hst] at HSH HRS
    obtain ⟨nx, hnx⟩ : ∃ n, xs.length = n := ⟨_, rfl⟩
    rw [hnx] at hTn hTm
    rw [hTn] at HCX
    have HNX := Lib.hid hnx
    clear hT1 hxs hst hTn hnx
    unfold planA at HCX HLI HSH HRS HF1 HF2
    clear HRI hgood ho1 ho2 hm1 hm2
    go_enter Try.func4, Try.ntmps4
    go_wp2_with fail
    clear hw1 hw2 hP hQ
    refine (HRY.out _ HK0.out).mono ?_
    rintro e w3 ⟨rfl, hb⟩
    have HK1 := Lib.hid (HK0.out.trans (hb.mono HK0.out.size))
    clear hb p0 p1 p2 q0 q1 q2
    obtain ⟨p0, p1, p2, q0, q1, q2⟩ := HSA.out _ HK1.out
    go_wp2_with fail
    refine (HCX.out _ HK1.out).mono ?_
    rintro e w4 ⟨Ac, cc, rfl, hch, hb4⟩
    have HK4 := Lib.hid (HK1.out.trans (hb4.mono HK1.out.size))
    have HCH4 := Lib.hid hch
    clear hch hb4 p0 p1 p2 q0 q1 q2
    obtain ⟨p0, p1, p2, q0, q1, q2⟩ := HSA.out _ HK4.out
    go_wp2_with fail
    refine (HLI.out _ HK4.out).mono ?_
    rintro e w5 ⟨vl, rfl, hv3, hb5, _⟩
    have HK5 := Lib.hid (HK4.out.trans (hb5.mono HK4.out.size))
    have HCH := Lib.hid (HCH4.out.keep hb5)
    obtain ⟨A3, c3, rfl, _, _⟩ := id hv3
    rw [HNX.out] at hv3 ⊢
    have HV3 := Lib.hid hv3
    clear hv3 hb5 p0 p1 p2 q0 q1 q2
    have HSX : Hid (∀ W, Below w5.heap.size w5 W → W.cell? ⟨P, 0, none⟩ = some (.int .i64 f1) ∧ W.cell? ⟨P, 1, none⟩ = some (.int .u32 m1) ∧ W.cell? ⟨P, 2, none⟩ = some v1 ∧ W.cell? ⟨Q, 0, none⟩ = some (.int .i64 f2) ∧ W.cell? ⟨Q, 1, none⟩ = some (.int .u32 m2) ∧ W.cell? ⟨Q, 2, none⟩ = some v2) := Lib.hid (fun W hk => HSA.out W (HK5.out.trans (hk.mono HK5.out.size)))
    have HSH := Lib.hid (fun W (hk : Below w5.heap.size w5 W) => HSH.out W (HK5.out.trans (hk.mono HK5.out.size)))
    have HRS := Lib.hid (fun W (hk : Below w5.heap.size w5 W) => HRS.out W (HK5.out.trans (hk.mono HK5.out.size)))
    have hkd : Below w5.heap.size w5 w5.drew := (Below.refl _ _).drew
    have hnn : ((nx : Int) != (nx : Int)) = false := by simp
    have hss : ((st : Int) != (st : Int)) = false := by simp
    go_wp2_with fail
    refine wp_region_held_drew (S := fun w' => w'.cell? ⟨P, 0, none⟩ = some (.int .i64 f1) ∧ w'.cell? ⟨P, 1, none⟩ = some (.int .u32 m1) ∧ w'.cell? ⟨P, 2, none⟩ = some (v1) ∧ w'.cell? ⟨Q, 0, none⟩ = some (.int .i64 f2) ∧ w'.cell? ⟨Q, 1, none⟩ = some (.int .u32 m2) ∧ w'.cell? ⟨Q, 2, none⟩ = some (v2)) (by kernel_rfl) ?_ (fun hHeld => ?_)
    · exact HSX.out _ hkd
    refine wpAnyH_take (i := 0) (oi := ⟨some 23, _, _, _, _, _⟩) (v := ?_) rfl (by kernel_rfl) (by kernel_rfl) (by kernel_rfl) (fun _ _ _ h => h) (Or.inl ⟨by kernel_rfl, ?_⟩) (by assumption) ?_
    rotate_left
    · (intro w hSw; (try dsimp only at hSw); go_simp; try with_reducible rfl)
    (try simp only [Act.put, List.setIfInBounds_toArray, List.set_cons_zero, List.set_cons_succ])
    refine wpAnyH_take (i := 1) (oi := ⟨some 24, _, _, _, _, _⟩) (v := ?_) rfl (by kernel_rfl) (by kernel_rfl) (by kernel_rfl) (fun _ _ _ h => h) (Or.inl ⟨by kernel_rfl, ?_⟩) (by assumption) ?_
    rotate_left
    · (intro w hSw; (try dsimp only at hSw); go_simp; try with_reducible rfl)
    (try simp only [Act.put, List.setIfInBounds_toArray, List.set_cons_zero, List.set_cons_succ])
    refine wpAnyH_take (i := 2) (oi := ⟨some 25, _, _, _, _, _⟩) (v := ?_) rfl (by kernel_rfl) (by kernel_rfl) (by kernel_rfl) (fun _ _ _ h => h) (Or.inl ⟨by kernel_rfl, ?_⟩) (by assumption) ?_
    rotate_left
    · (intro w hSw; (try dsimp only at hSw); go_simp; try with_reducible rfl)
    (try simp only [Act.put, List.setIfInBounds_toArray, List.set_cons_zero, List.set_cons_succ])
    refine wpAnyH_take (i := 3) (oi := ⟨some 26, _, _, _, _, _⟩) (v := ?_) rfl (by kernel_rfl) (by kernel_rfl) (by kernel_rfl) (fun _ _ _ h => h) (Or.inl ⟨by kernel_rfl, ?_⟩) (by assumption) ?_
    rotate_left
    · (intro w hSw; (try dsimp only at hSw); go_simp; try with_reducible rfl)
    (try simp only [Act.put, List.setIfInBounds_toArray, List.set_cons_zero, List.set_cons_succ])
    refine wpAnyH_take (i := 4) (oi := ⟨some 27, _, _, _, _, _⟩) (v := ?_) rfl (by kernel_rfl) (by kernel_rfl) (by kernel_rfl) (fun _ _ _ h => h) (Or.inl ⟨by kernel_rfl, ?_⟩) (by assumption) ?_
    rotate_left
    · (intro w hSw; (try dsimp only at hSw); go_simp; try with_reducible rfl)
    (try simp only [Act.put, List.setIfInBounds_toArray, List.set_cons_zero, List.set_cons_succ])
    refine wpAnyH_take (i := 5) (oi := ⟨some 28, _, _, _, _, _⟩) (v := ?_) rfl (by kernel_rfl) (by kernel_rfl) (by kernel_rfl) (fun _ _ _ h => h) (Or.inl ⟨by kernel_rfl, ?_⟩) (by assumption) ?_
    rotate_left
    · (intro w hSw; (try dsimp only at hSw); go_simp; try with_reducible rfl)
    (try simp only [Act.put, List.setIfInBounds_toArray, List.set_cons_zero, List.set_cons_succ])
    refine wpAnyH_take (i := 6) (oi := ⟨some 29, _, _, _, _, _⟩) (v := ?_) rfl (by kernel_rfl) (by kernel_rfl) (by kernel_rfl) (fun _ _ _ h => h) (Or.inl ⟨by kernel_rfl, ?_⟩) (by assumption) ?_
    rotate_left
    · (intro w hSw; (try dsimp only at hSw); go_simp; try with_reducible rfl)
    (try simp only [Act.put, List.setIfInBounds_toArray, List.set_cons_zero, List.set_cons_succ])
    refine wpAnyH_take (i := 7) (oi := ⟨some 30, _, _, _, _, _⟩) (v := ?_) rfl (by kernel_rfl) (by kernel_rfl) (by kernel_rfl) (fun _ _ _ h => h) (Or.inl ⟨by kernel_rfl, ?_⟩) (by assumption) ?_
    rotate_left
    · (intro w hSw; (try dsimp only at hSw); go_simp; try with_reducible rfl)
    (try simp only [Act.put, List.setIfInBounds_toArray, List.set_cons_zero, List.set_cons_succ])
    refine wpAnyH_take (i := 9) (oi := ⟨some 32, _, _, _, _, _⟩) (v := ?_) rfl (by kernel_rfl) (by kernel_rfl) (by kernel_rfl) (fun _ _ _ h => h) (Or.inl ⟨by kernel_rfl, ?_⟩) (by assumption) ?_
    rotate_left
    · (intro w hSw; (try dsimp only at hSw); go_simp; try with_reducible rfl)
    (try simp only [Act.put, List.setIfInBounds_toArray, List.set_cons_zero, List.set_cons_succ])
    refine wpAnyH_take (i := 10) (oi := ⟨some 33, _, _, _, _, _⟩) (v := ?_) rfl (by kernel_rfl) (by kernel_rfl) (by kernel_rfl) (fun _ _ _ h => h) (Or.inl ⟨by kernel_rfl, ?_⟩) (by assumption) ?_
    rotate_left
    · (intro w hSw; (try dsimp only at hSw); go_simp; try with_reducible rfl)
    (try simp only [Act.put, List.setIfInBounds_toArray, List.set_cons_zero, List.set_cons_succ])
    refine wpAnyH_ready (rs := [8]) (by kernel_rfl) (by simp) ?_
    refine AllReadyH.cons (o := ⟨some 31, _, _, _, _, _⟩) rfl (fun K hK => ?_) AllReadyH.nil
    rw [if_pos (by kernel_rfl)]
    go_simp
    go_at_call 16; refine (HSH.out _ hkd).mono ?_; rintro e wa ⟨rfl, hba⟩
    have hka := hkd.trans (hba.mono hkd.size)
    refine hK.out _ _ ?_ (fun hHeld => ?_)
    · exact HSX.out _ hka
    clear hK K
    (try simp only [Act.put, List.setIfInBounds_toArray, List.set_cons_zero, List.set_cons_succ])
    refine wpAnyH_ready (rs := [11]) (by kernel_rfl) (by simp) ?_
    refine AllReadyH.cons (o := ⟨some 34, _, _, _, _, _⟩) rfl (fun K hK => ?_) AllReadyH.nil
    rw [if_pos (by kernel_rfl)]
    go_simp
    go_at_call 17; refine (HRS.out _ hka).mono ?_; rintro e wb ⟨rfl, hbb⟩
    have hkb := hka.trans (hbb.mono hka.size)
    refine hK.out _ _ ?_ (fun hHeld => ?_)
    · exact HSX.out _ hkb
    clear hK K
    (try simp only [Act.put, List.setIfInBounds_toArray, List.set_cons_zero, List.set_cons_succ])
    refine wpAnyH_take (i := 12) (oi := ⟨some 35, _, _, _, _, _⟩) (v := ?_) rfl (by kernel_rfl) (by kernel_rfl) (by kernel_rfl) (fun _ _ _ h => h) (Or.inl ⟨by kernel_rfl, ?_⟩) (by assumption) ?_
    rotate_left
    · (intro w hSw; (try dsimp only at hSw); go_simp; try with_reducible rfl)
    (try simp only [Act.put, List.setIfInBounds_toArray, List.set_cons_zero, List.set_cons_succ])
    refine wpAnyH_take (i := 13) (oi := ⟨some 36, _, _, _, _, _⟩) (v := ?_) rfl (by kernel_rfl) (by kernel_rfl) (by kernel_rfl) (fun _ _ _ h => h) (Or.inl ⟨by kernel_rfl, ?_⟩) (by assumption) ?_
    rotate_left
    · (intro w hSw; (try dsimp only at hSw); go_simp; try with_reducible rfl)
    (try simp only [Act.put, List.setIfInBounds_toArray, List.set_cons_zero, List.set_cons_succ])
    refine wpAnyH_done (by kernel_rfl) ?_ _
    have HKB := Lib.hid hkb
    clear hHeld hkb hka hkd hba hbb
    go_wp2_with fail
    go_loopg [7] nx (fun gg s7 wr => ∃ i : Nat, i ≤ nx ∧ gg = nx - i ∧ s7 = .int .i64 i ∧ Hid (Below w5.heap.size w5 wr))
    case atStart => exact ⟨0, Nat.zero_le _, by omega, rfl, HKB⟩
    case round =>
      obtain ⟨i, hi, hgg, rfl, HBW⟩ := hrel
      have HG := Lib.hid hgg
      have HKW : Hid (Below w2.heap.size w2 wr) := Lib.hid (HK5.out.trans (HBW.out.mono HK5.out.size))
      clear hgg
      by_cases hlt : i < nx
      · have hltz : (i : Int) < (nx : Int) := by omega
        have hi0 : (0 : Int) ≤ (i : Int) := by omega
        obtain ⟨un, hun⟩ : ∃ x, xs[i]? = some x := ⟨_, List.getElem?_eq_getElem (by rw [HNX.out]; exact hlt)⟩
        have HTU := Lib.hid (HTX.out i un hun)
        obtain ⟨A', c', hA', _, hcell⟩ := HV3.out.keep HBW.out
        obtain ⟨lb', loff, hAb, hbl, hc⟩ := hcell (by rw [HNX.out]; omega)
        have hA2 : A3 = some ⟨lb', loff, none⟩ := by simp only [Value.slice.injEq] at hA'; rw [← hAb]; exact hA'.1
        subst hA2
        have HCE : Hid (∀ W, Below wr.heap.size wr W → W.cell? ⟨lb', loff + i, none⟩ = some (.int .i64 un)) := Lib.hid (fun W hk => (hk.cell (p := ⟨lb', loff + i, none⟩) hbl).trans (hc i un hun))
        have HSE1 : Hid (∀ W, Below wr.heap.size wr W → W.cell? ⟨P, 0, none⟩ = some (.int .i64 f1) ∧ W.cell? ⟨P, 1, none⟩ = some (.int .u32 m1) ∧ W.cell? ⟨P, 2, none⟩ = some v1 ∧ W.cell? ⟨lb', loff + i, none⟩ = some (.int .i64 un)) := Lib.hid (fun W hk => by
          obtain ⟨a, b, c, _, _, _⟩ := HSA.out W (HKW.out.trans (hk.mono HKW.out.size))
          exact ⟨a, b, c, HCE.out W hk⟩)
        obtain ⟨cb, coff, B1, e1, B2, e2, hAc, hcl, hpc1, hpc2, hcells⟩ := (HCH.out.keep HBW.out).at_ HTU.out
        subst hAc
        have HF1 := Lib.hid (HF1.out un)
        have HF2 := Lib.hid (HF2.out un)
        have HPC1 := Lib.hid hpc1
        have HPC2 := Lib.hid hpc2
        have HCL := Lib.hid hcells
        unfold placeU at HPC1 HPC2 HCL HTU
        obtain ⟨o1, ho1⟩ : ∃ o, findU la un = o := ⟨_, rfl⟩
        obtain ⟨o2, ho2⟩ : ∃ o, findU lb un = o := ⟨_, rfl⟩
        rw [ho1] at HF1 HPC1 HCL HTU
        rw [ho2] at HF2 HPC2 HCL HTU
        clear hcell hc hA' hAb hun ho1 ho2 hpc1 hpc2 hcells
        go_upto_region 10 with fail
        go_cut [8, 9] from 43 to 52 (fun sx sb wx => ∃ (N : Nat) (A : Option Addr) (n d : Nat), sx = .pointer (some ⟨N, 0, none⟩) ∧ sb = .bool o1.isSome ∧ Hid (wr.heap.size ≤ N) ∧ Hid (wx.heap[N]? = some (.cells #[.int .i64 (o1.getD zeroPl).u, .int .i64 (o1.getD zeroPl).s, .int .i64 (o1.getD zeroPl).c, .slice A n d] 37 (0, 0))) ∧ Hid (PcsAt wx (.slice A n d) (o1.getD zeroPl).ps) ∧ Hid (Below wr.heap.size wr wx))
        case first =>
          have hkd : Below wr.heap.size wr wr.drew := (Below.refl _ _).drew
          refine wp_region_N (S1 := fun w' => w'.cell? ⟨P, 0, none⟩ = some (.int .i64 f1) ∧ w'.cell? ⟨P, 1, none⟩ = some (.int .u32 m1) ∧ w'.cell? ⟨P, 2, none⟩ = some v1 ∧ w'.cell? ⟨lb', loff + i, none⟩ = some (.int .i64 un)) (S2 := fun _ => True) (N := fun _ => true) (by kernel_rfl) ?_
          change wpAnyN _ _ _ _ _ _ _ 12 (Array.replicate 12 false) _ _
          refine wpAnyN_take false (i := 0) (oi := ⟨some 44, _, _, _, _, _⟩) (v := ?_) rfl (by kernel_rfl) (by kernel_rfl) (by kernel_rfl) (fun _ _ _ h => h) (Or.inl ⟨by kernel_rfl, ?_⟩) ⟨HSE1.out _ hkd, fun h => (by cases h)⟩ ?_
          rotate_left
          · (intro w hSw; obtain ⟨hSa, hSb⟩ := hSw; clear hSb; (try dsimp only at hSa); go_simp; try with_reducible rfl)
          (try simp only [Act.put, List.setIfInBounds_toArray, List.set_cons_zero, List.set_cons_succ])
          refine wpAnyN_take false (i := 1) (oi := ⟨some 45, _, _, _, _, _⟩) (v := ?_) rfl (by kernel_rfl) (by kernel_rfl) (by kernel_rfl) (fun _ _ _ h => h) (Or.inl ⟨by kernel_rfl, ?_⟩) ⟨HSE1.out _ hkd, fun h => (by cases h)⟩ ?_
          rotate_left
          · (intro w hSw; obtain ⟨hSa, hSb⟩ := hSw; clear hSb; (try dsimp only at hSa); go_simp; try with_reducible rfl)
          (try simp only [Act.put, List.setIfInBounds_toArray, List.set_cons_zero, List.set_cons_succ])
          refine wpAnyN_take false (i := 2) (oi := ⟨some 46, _, _, _, _, _⟩) (v := ?_) rfl (by kernel_rfl) (by kernel_rfl) (by kernel_rfl) (fun _ _ _ h => h) (Or.inl ⟨by kernel_rfl, ?_⟩) ⟨HSE1.out _ hkd, fun h => (by cases h)⟩ ?_
          rotate_left
          · (intro w hSw; obtain ⟨hSa, hSb⟩ := hSw; clear hSb; (try dsimp only at hSa); go_simp; try with_reducible rfl)
          (try simp only [Act.put, List.setIfInBounds_toArray, List.set_cons_zero, List.set_cons_succ])
          refine wpAnyN_take false (i := 3) (oi := ⟨some 47, _, _, _, _, _⟩) (v := ?_) rfl (by kernel_rfl) (by kernel_rfl) (by kernel_rfl) (fun _ _ _ h => h) (Or.inl ⟨by kernel_rfl, ?_⟩) ⟨HSE1.out _ hkd, fun h => (by cases h)⟩ ?_
          rotate_left
          · (intro w hSw; obtain ⟨hSa, hSb⟩ := hSw; clear hSb; (try dsimp only at hSa); go_simp; try with_reducible rfl)
          (try simp only [Act.put, List.setIfInBounds_toArray, List.set_cons_zero, List.set_cons_succ])
          refine wpAnyN_take false (i := 4) (oi := ⟨some 48, _, _, _, _, _⟩) (v := ?_) rfl (by kernel_rfl) (by kernel_rfl) (by kernel_rfl) (fun _ _ _ h => h) (Or.inl ⟨by kernel_rfl, ?_⟩) ⟨HSE1.out _ hkd, fun h => (by cases h)⟩ ?_
          rotate_left
          · (intro w hSw; obtain ⟨hSa, hSb⟩ := hSw; clear hSb; (try dsimp only at hSa); go_simp; try with_reducible rfl)
          (try simp only [Act.put, List.setIfInBounds_toArray, List.set_cons_zero, List.set_cons_succ])
          refine wpAnyN_two (i := 5) (j := 9) (by kernel_rfl) rfl rfl (by kernel_rfl) (by kernel_rfl) ?_ ?_
          · intro K' hK
            (try simp only [Act.put, List.setIfInBounds_toArray, List.set_cons_zero, List.set_cons_succ])
            go_simp
            go_at_call 18; refine (HF1.out _ (HKW.out.trans (hkd.mono HKW.out.size))).mono ?_; rintro e wa ⟨va, rfl, hpa, hba⟩
            obtain ⟨A, c, rfl, hq1, hq2, hq3⟩ := hpa
            obtain ⟨n, hn⟩ : ∃ n, (o1.getD zeroPl).ps.length = n := ⟨_, rfl⟩
            rw [hn]
            have hka := hkd.trans (hba.mono hkd.size)
            refine hK.out _ _ (HSE1.out _ hka) (fun _ _ => trivial) ?_
            clear hK K'
            (try simp only [Act.put, List.setIfInBounds_toArray, List.set_cons_zero, List.set_cons_succ])
            refine wpAnyN_take false (i := 6) (oi := ⟨some 43, _, _, _, _, _⟩) (v := ?_) rfl (by kernel_rfl) (by kernel_rfl) (by kernel_rfl) (fun _ _ _ h => h) (Or.inl ⟨by kernel_rfl, ?_⟩) ⟨HSE1.out _ hka, fun h => (by cases h)⟩ ?_
            rotate_left
            · (intro w hSw; obtain ⟨hSa, hSb⟩ := hSw; clear hSb; (try dsimp only at hSa); go_simp; try with_reducible rfl)
            (try simp only [Act.put, List.setIfInBounds_toArray, List.set_cons_zero, List.set_cons_succ])
            refine wpAnyN_take false (i := 7) (oi := ⟨some 50, _, _, _, _, _⟩) (v := ?_) rfl (by kernel_rfl) (by kernel_rfl) (by kernel_rfl) (fun _ _ _ h => h) (Or.inl ⟨by kernel_rfl, ?_⟩) ⟨HSE1.out _ hka, fun h => (by cases h)⟩ ?_
            rotate_left
            · (intro w hSw; obtain ⟨hSa, hSb⟩ := hSw; clear hSb; (try dsimp only at hSa); go_simp; try with_reducible rfl)
            (try simp only [Act.put, List.setIfInBounds_toArray, List.set_cons_zero, List.set_cons_succ])
            refine wpAnyN_take false (i := 8) (oi := ⟨some 51, _, _, _, _, _⟩) (v := ?_) rfl (by kernel_rfl) (by kernel_rfl) (by kernel_rfl) (fun _ _ _ h => h) (Or.inl ⟨by kernel_rfl, ?_⟩) ⟨HSE1.out _ hka, fun h => (by cases h)⟩ ?_
            rotate_left
            · (intro w hSw; obtain ⟨hSa, hSb⟩ := hSw; clear hSb; (try dsimp only at hSa); go_simp; try with_reducible rfl)
            (try simp only [Act.put, List.setIfInBounds_toArray, List.set_cons_zero, List.set_cons_succ])
            refine wpAnyN_step (i := 9) (by kernel_rfl) rfl (by kernel_rfl) ?_
            intro K' hK
            (try simp only [Act.put, List.setIfInBounds_toArray, List.set_cons_zero, List.set_cons_succ])
            obtain ⟨wz, N, hwz, hN, hNl, hbz, hnz⟩ := box_any wa #[.int .i64 0, .int .i64 0, .int .i64 0, .slice none 0 0] 37
            go_simp
            have hkz := hka.trans (hbz.mono hka.size)
            have hNlo : wr.heap.size ≤ N := by have := hka.size; omega
            refine hK.out _ _ (HSE1.out _ hkz) (fun _ _ => trivial) ?_
            clear hK K'
            (try simp only [Act.put, List.setIfInBounds_toArray, List.set_cons_zero, List.set_cons_succ])
            have hpa : PcsIn (fun b => b < w2.heap.size) wa (.slice A n c) (o1.getD zeroPl).ps := ⟨A, c, by rw [hn], hq1, hq2, hq3⟩
            have hpz : PcsIn (fun b => b ≠ N) wz (.slice A n c) (o1.getD zeroPl).ps := (hpa.mono fun b _ hg => by have := HKW.out.size; omega).keep hbz
            refine wpAnyN_step (i := 10) (by kernel_rfl) rfl (by kernel_rfl) ?_
            intro K' hK
            (try simp only [Act.put, List.setIfInBounds_toArray, List.set_cons_zero, List.set_cons_succ])
            refine wp_store_row _ _ _ rfl N #[.int .i64 (o1.getD zeroPl).u, .int .i64 (o1.getD zeroPl).s, .int .i64 (o1.getD zeroPl).c, .slice A n c] (by simp [Act.eval, Act.put]) (by simp [Act.eval, Act.put]) 37 #[.int .i64 0, .int .i64 0, .int .i64 0, .slice none 0 0] hnz (Try.sizePl _ _ _ _) rfl (one4 _ _ _ _ _ _) ?_
            have hkF : Below wr.heap.size wr (wz.setRow N #[.int .i64 (o1.getD zeroPl).u, .int .i64 (o1.getD zeroPl).s, .int .i64 (o1.getD zeroPl).c, .slice A n c]) := below_row16 hkz hNlo _
            refine hK.out _ _ (HSE1.out _ hkF) (fun _ _ => trivial) ?_
            clear hK K'
            (try simp only [Act.put, List.setIfInBounds_toArray, List.set_cons_zero, List.set_cons_succ])
            refine wpAnyN_take false (i := 11) (oi := ⟨some 9, _, _, _, _, _⟩) (v := ?_) rfl (by kernel_rfl) (by kernel_rfl) (by kernel_rfl) (fun _ _ _ h => h) (Or.inl ⟨by kernel_rfl, ?_⟩) ⟨HSE1.out _ hkF, fun h => (by cases h)⟩ ?_
            rotate_left
            · (intro w hSw; obtain ⟨hSa, hSb⟩ := hSw; clear hSb; (try dsimp only at hSa); go_simp; try with_reducible rfl)
            (try simp only [Act.put, List.setIfInBounds_toArray, List.set_cons_zero, List.set_cons_succ])
            refine wpAnyN_done (by kernel_rfl) ?_
            go_wp2_with fail
            go_meet
            exact ⟨N, A, n, c, rfl, rfl, Lib.hid hNlo, Lib.hid (setRow_heap _ _ _ _ _ _ hnz), Lib.hid (PcsIn.setRow hpz (.inl fun h => h rfl)).any, Lib.hid hkF⟩
          · intro K' hK
            (try simp only [Act.put, List.setIfInBounds_toArray, List.set_cons_zero, List.set_cons_succ])
            obtain ⟨wy, N, hwz, hN, hNl, hby, hny⟩ := box_any wr.drew #[.int .i64 0, .int .i64 0, .int .i64 0, .slice none 0 0] 37
            go_simp
            have hky := hkd.trans (hby.mono hkd.size)
            have hNlo : wr.heap.size ≤ N := by have := hkd.size; omega
            refine hK.out _ _ (HSE1.out _ hky) (fun _ _ => trivial) ?_
            clear hK K'
            (try simp only [Act.put, List.setIfInBounds_toArray, List.set_cons_zero, List.set_cons_succ])
            refine wpAnyN_step (i := 5) (by kernel_rfl) rfl (by kernel_rfl) ?_
            intro K' hK
            (try simp only [Act.put, List.setIfInBounds_toArray, List.set_cons_zero, List.set_cons_succ])
            go_simp
            go_at_call 18; refine (HF1.out _ (HKW.out.trans (hky.mono HKW.out.size))).mono ?_; rintro e wa ⟨va, rfl, hpa, hba⟩
            obtain ⟨A, c, rfl, hq1, hq2, hq3⟩ := hpa
            obtain ⟨n, hn⟩ : ∃ n, (o1.getD zeroPl).ps.length = n := ⟨_, rfl⟩
            rw [hn]
            have hkz := hky.trans (hba.mono hky.size)
            refine hK.out _ _ (HSE1.out _ hkz) (fun _ _ => trivial) ?_
            clear hK K'
            (try simp only [Act.put, List.setIfInBounds_toArray, List.set_cons_zero, List.set_cons_succ])
            refine wpAnyN_take false (i := 6) (oi := ⟨some 43, _, _, _, _, _⟩) (v := ?_) rfl (by kernel_rfl) (by kernel_rfl) (by kernel_rfl) (fun _ _ _ h => h) (Or.inl ⟨by kernel_rfl, ?_⟩) ⟨HSE1.out _ hkz, fun h => (by cases h)⟩ ?_
            rotate_left
            · (intro w hSw; obtain ⟨hSa, hSb⟩ := hSw; clear hSb; (try dsimp only at hSa); go_simp; try with_reducible rfl)
            (try simp only [Act.put, List.setIfInBounds_toArray, List.set_cons_zero, List.set_cons_succ])
            refine wpAnyN_take false (i := 7) (oi := ⟨some 50, _, _, _, _, _⟩) (v := ?_) rfl (by kernel_rfl) (by kernel_rfl) (by kernel_rfl) (fun _ _ _ h => h) (Or.inl ⟨by kernel_rfl, ?_⟩) ⟨HSE1.out _ hkz, fun h => (by cases h)⟩ ?_
            rotate_left
            · (intro w hSw; obtain ⟨hSa, hSb⟩ := hSw; clear hSb; (try dsimp only at hSa); go_simp; try with_reducible rfl)
            (try simp only [Act.put, List.setIfInBounds_toArray, List.set_cons_zero, List.set_cons_succ])
            refine wpAnyN_take false (i := 8) (oi := ⟨some 51, _, _, _, _, _⟩) (v := ?_) rfl (by kernel_rfl) (by kernel_rfl) (by kernel_rfl) (fun _ _ _ h => h) (Or.inl ⟨by kernel_rfl, ?_⟩) ⟨HSE1.out _ hkz, fun h => (by cases h)⟩ ?_
            rotate_left
            · (intro w hSw; obtain ⟨hSa, hSb⟩ := hSw; clear hSb; (try dsimp only at hSa); go_simp; try with_reducible rfl)
            (try simp only [Act.put, List.setIfInBounds_toArray, List.set_cons_zero, List.set_cons_succ])
            obtain ⟨wz, hwz2⟩ : ∃ wz, wz = wa := ⟨_, rfl⟩
            subst hwz2
            have hnz := keep_block hny hba
            have hpa : PcsIn (fun b => b < w2.heap.size) wz (.slice A n c) (o1.getD zeroPl).ps := ⟨A, c, by rw [hn], hq1, hq2, hq3⟩
            have hpz : PcsIn (fun b => b ≠ N) wz (.slice A n c) (o1.getD zeroPl).ps := hpa.mono fun b _ hg => by have := HKW.out.size; omega
            refine wpAnyN_step (i := 10) (by kernel_rfl) rfl (by kernel_rfl) ?_
            intro K' hK
            (try simp only [Act.put, List.setIfInBounds_toArray, List.set_cons_zero, List.set_cons_succ])
            refine wp_store_row _ _ _ rfl N #[.int .i64 (o1.getD zeroPl).u, .int .i64 (o1.getD zeroPl).s, .int .i64 (o1.getD zeroPl).c, .slice A n c] (by simp [Act.eval, Act.put]) (by simp [Act.eval, Act.put]) 37 #[.int .i64 0, .int .i64 0, .int .i64 0, .slice none 0 0] hnz (Try.sizePl _ _ _ _) rfl (one4 _ _ _ _ _ _) ?_
            have hkF : Below wr.heap.size wr (wz.setRow N #[.int .i64 (o1.getD zeroPl).u, .int .i64 (o1.getD zeroPl).s, .int .i64 (o1.getD zeroPl).c, .slice A n c]) := below_row16 hkz hNlo _
            refine hK.out _ _ (HSE1.out _ hkF) (fun _ _ => trivial) ?_
            clear hK K'
            (try simp only [Act.put, List.setIfInBounds_toArray, List.set_cons_zero, List.set_cons_succ])
            refine wpAnyN_take false (i := 11) (oi := ⟨some 9, _, _, _, _, _⟩) (v := ?_) rfl (by kernel_rfl) (by kernel_rfl) (by kernel_rfl) (fun _ _ _ h => h) (Or.inl ⟨by kernel_rfl, ?_⟩) ⟨HSE1.out _ hkF, fun h => (by cases h)⟩ ?_
            rotate_left
            · (intro w hSw; obtain ⟨hSa, hSb⟩ := hSw; clear hSb; (try dsimp only at hSa); go_simp; try with_reducible rfl)
            (try simp only [Act.put, List.setIfInBounds_toArray, List.set_cons_zero, List.set_cons_succ])
            refine wpAnyN_done (by kernel_rfl) ?_
            go_wp2_with fail
            go_meet
            exact ⟨N, A, n, c, rfl, rfl, Lib.hid hNlo, Lib.hid (setRow_heap _ _ _ _ _ _ hnz), Lib.hid (PcsIn.setRow hpz (.inl fun h => h rfl)).any, Lib.hid hkF⟩
        case rest =>
          obtain ⟨N1, A1, n1, d1, rfl, rfl, HNL1, HX1, HPX1, HKX⟩ := hcut
          obtain ⟨wX, hwX⟩ : ∃ w, w = wc := ⟨_, rfl⟩
          subst hwX
          have HKX2 : Hid (Below w2.heap.size w2 wX) := Lib.hid (HKW.out.trans (HKX.out.mono HKW.out.size))
          have HSE2 : Hid (∀ W, Below wX.heap.size wX W → W.cell? ⟨Q, 0, none⟩ = some (.int .i64 f2) ∧ W.cell? ⟨Q, 1, none⟩ = some (.int .u32 m2) ∧ W.cell? ⟨Q, 2, none⟩ = some v2 ∧ W.cell? ⟨lb', loff + i, none⟩ = some (.int .i64 un)) := Lib.hid (fun W hk => by
            obtain ⟨_, _, _, a, b, c⟩ := HSA.out W (HKX2.out.trans (hk.mono HKX2.out.size))
            exact ⟨a, b, c, HCE.out W (HKX.out.trans (hk.mono HKX.out.size))⟩)
          go_upto_region 11 with fail
          go_cut [10, 11] from 52 to 61 (fun sx sb wx => ∃ (N : Nat) (A : Option Addr) (n d : Nat), sx = .pointer (some ⟨N, 0, none⟩) ∧ sb = .bool o2.isSome ∧ Hid (wX.heap.size ≤ N) ∧ Hid (wx.heap[N]? = some (.cells #[.int .i64 (o2.getD zeroPl).u, .int .i64 (o2.getD zeroPl).s, .int .i64 (o2.getD zeroPl).c, .slice A n d] 37 (0, 0))) ∧ Hid (PcsAt wx (.slice A n d) (o2.getD zeroPl).ps) ∧ Hid (Below wX.heap.size wX wx))
          case first =>
            have hkd : Below wX.heap.size wX wX.drew := (Below.refl _ _).drew
            refine wp_region_N (S1 := fun w' => w'.cell? ⟨Q, 0, none⟩ = some (.int .i64 f2) ∧ w'.cell? ⟨Q, 1, none⟩ = some (.int .u32 m2) ∧ w'.cell? ⟨Q, 2, none⟩ = some v2 ∧ w'.cell? ⟨lb', loff + i, none⟩ = some (.int .i64 un)) (S2 := fun _ => True) (N := fun _ => true) (by kernel_rfl) ?_
            change wpAnyN _ _ _ _ _ _ _ 12 (Array.replicate 12 false) _ _
            refine wpAnyN_take false (i := 0) (oi := ⟨some 53, _, _, _, _, _⟩) (v := ?_) rfl (by kernel_rfl) (by kernel_rfl) (by kernel_rfl) (fun _ _ _ h => h) (Or.inl ⟨by kernel_rfl, ?_⟩) ⟨HSE2.out _ hkd, fun h => (by cases h)⟩ ?_
            rotate_left
            · (intro w hSw; obtain ⟨hSa, hSb⟩ := hSw; clear hSb; (try dsimp only at hSa); go_simp; try with_reducible rfl)
            (try simp only [Act.put, List.setIfInBounds_toArray, List.set_cons_zero, List.set_cons_succ])
            refine wpAnyN_take false (i := 1) (oi := ⟨some 54, _, _, _, _, _⟩) (v := ?_) rfl (by kernel_rfl) (by kernel_rfl) (by kernel_rfl) (fun _ _ _ h => h) (Or.inl ⟨by kernel_rfl, ?_⟩) ⟨HSE2.out _ hkd, fun h => (by cases h)⟩ ?_
            rotate_left
            · (intro w hSw; obtain ⟨hSa, hSb⟩ := hSw; clear hSb; (try dsimp only at hSa); go_simp; try with_reducible rfl)
            (try simp only [Act.put, List.setIfInBounds_toArray, List.set_cons_zero, List.set_cons_succ])
            refine wpAnyN_take false (i := 2) (oi := ⟨some 55, _, _, _, _, _⟩) (v := ?_) rfl (by kernel_rfl) (by kernel_rfl) (by kernel_rfl) (fun _ _ _ h => h) (Or.inl ⟨by kernel_rfl, ?_⟩) ⟨HSE2.out _ hkd, fun h => (by cases h)⟩ ?_
            rotate_left
            · (intro w hSw; obtain ⟨hSa, hSb⟩ := hSw; clear hSb; (try dsimp only at hSa); go_simp; try with_reducible rfl)
            (try simp only [Act.put, List.setIfInBounds_toArray, List.set_cons_zero, List.set_cons_succ])
            refine wpAnyN_take false (i := 3) (oi := ⟨some 56, _, _, _, _, _⟩) (v := ?_) rfl (by kernel_rfl) (by kernel_rfl) (by kernel_rfl) (fun _ _ _ h => h) (Or.inl ⟨by kernel_rfl, ?_⟩) ⟨HSE2.out _ hkd, fun h => (by cases h)⟩ ?_
            rotate_left
            · (intro w hSw; obtain ⟨hSa, hSb⟩ := hSw; clear hSb; (try dsimp only at hSa); go_simp; try with_reducible rfl)
            (try simp only [Act.put, List.setIfInBounds_toArray, List.set_cons_zero, List.set_cons_succ])
            refine wpAnyN_take false (i := 4) (oi := ⟨some 57, _, _, _, _, _⟩) (v := ?_) rfl (by kernel_rfl) (by kernel_rfl) (by kernel_rfl) (fun _ _ _ h => h) (Or.inl ⟨by kernel_rfl, ?_⟩) ⟨HSE2.out _ hkd, fun h => (by cases h)⟩ ?_
            rotate_left
            · (intro w hSw; obtain ⟨hSa, hSb⟩ := hSw; clear hSb; (try dsimp only at hSa); go_simp; try with_reducible rfl)
            (try simp only [Act.put, List.setIfInBounds_toArray, List.set_cons_zero, List.set_cons_succ])
            refine wpAnyN_two (i := 5) (j := 9) (by kernel_rfl) rfl rfl (by kernel_rfl) (by kernel_rfl) ?_ ?_
            · intro K' hK
              (try simp only [Act.put, List.setIfInBounds_toArray, List.set_cons_zero, List.set_cons_succ])
              go_simp
              go_at_call 18; refine (HF2.out _ (HKX2.out.trans (hkd.mono HKX2.out.size))).mono ?_; rintro e wa ⟨va, rfl, hpa, hba⟩
              obtain ⟨A, c, rfl, hq1, hq2, hq3⟩ := hpa
              obtain ⟨n, hn⟩ : ∃ n, (o2.getD zeroPl).ps.length = n := ⟨_, rfl⟩
              rw [hn]
              have hka := hkd.trans (hba.mono hkd.size)
              refine hK.out _ _ (HSE2.out _ hka) (fun _ _ => trivial) ?_
              clear hK K'
              (try simp only [Act.put, List.setIfInBounds_toArray, List.set_cons_zero, List.set_cons_succ])
              refine wpAnyN_take false (i := 6) (oi := ⟨some 52, _, _, _, _, _⟩) (v := ?_) rfl (by kernel_rfl) (by kernel_rfl) (by kernel_rfl) (fun _ _ _ h => h) (Or.inl ⟨by kernel_rfl, ?_⟩) ⟨HSE2.out _ hka, fun h => (by cases h)⟩ ?_
              rotate_left
              · (intro w hSw; obtain ⟨hSa, hSb⟩ := hSw; clear hSb; (try dsimp only at hSa); go_simp; try with_reducible rfl)
              (try simp only [Act.put, List.setIfInBounds_toArray, List.set_cons_zero, List.set_cons_succ])
              refine wpAnyN_take false (i := 7) (oi := ⟨some 59, _, _, _, _, _⟩) (v := ?_) rfl (by kernel_rfl) (by kernel_rfl) (by kernel_rfl) (fun _ _ _ h => h) (Or.inl ⟨by kernel_rfl, ?_⟩) ⟨HSE2.out _ hka, fun h => (by cases h)⟩ ?_
              rotate_left
              · (intro w hSw; obtain ⟨hSa, hSb⟩ := hSw; clear hSb; (try dsimp only at hSa); go_simp; try with_reducible rfl)
              (try simp only [Act.put, List.setIfInBounds_toArray, List.set_cons_zero, List.set_cons_succ])
              refine wpAnyN_take false (i := 8) (oi := ⟨some 60, _, _, _, _, _⟩) (v := ?_) rfl (by kernel_rfl) (by kernel_rfl) (by kernel_rfl) (fun _ _ _ h => h) (Or.inl ⟨by kernel_rfl, ?_⟩) ⟨HSE2.out _ hka, fun h => (by cases h)⟩ ?_
              rotate_left
              · (intro w hSw; obtain ⟨hSa, hSb⟩ := hSw; clear hSb; (try dsimp only at hSa); go_simp; try with_reducible rfl)
              (try simp only [Act.put, List.setIfInBounds_toArray, List.set_cons_zero, List.set_cons_succ])
              refine wpAnyN_step (i := 9) (by kernel_rfl) rfl (by kernel_rfl) ?_
              intro K' hK
              (try simp only [Act.put, List.setIfInBounds_toArray, List.set_cons_zero, List.set_cons_succ])
              obtain ⟨wz, N, hwz, hN, hNl, hbz, hnz⟩ := box_any wa #[.int .i64 0, .int .i64 0, .int .i64 0, .slice none 0 0] 37
              go_simp
              have hkz := hka.trans (hbz.mono hka.size)
              have hNlo : wX.heap.size ≤ N := by have := hka.size; omega
              refine hK.out _ _ (HSE2.out _ hkz) (fun _ _ => trivial) ?_
              clear hK K'
              (try simp only [Act.put, List.setIfInBounds_toArray, List.set_cons_zero, List.set_cons_succ])
              have hpa : PcsIn (fun b => b < w2.heap.size) wa (.slice A n c) (o2.getD zeroPl).ps := ⟨A, c, by rw [hn], hq1, hq2, hq3⟩
              have hpz : PcsIn (fun b => b ≠ N) wz (.slice A n c) (o2.getD zeroPl).ps := (hpa.mono fun b _ hg => by have := HKX2.out.size; omega).keep hbz
              refine wpAnyN_step (i := 10) (by kernel_rfl) rfl (by kernel_rfl) ?_
              intro K' hK
              (try simp only [Act.put, List.setIfInBounds_toArray, List.set_cons_zero, List.set_cons_succ])
              refine wp_store_row _ _ _ rfl N #[.int .i64 (o2.getD zeroPl).u, .int .i64 (o2.getD zeroPl).s, .int .i64 (o2.getD zeroPl).c, .slice A n c] (by simp [Act.eval, Act.put]) (by simp [Act.eval, Act.put]) 37 #[.int .i64 0, .int .i64 0, .int .i64 0, .slice none 0 0] hnz (Try.sizePl _ _ _ _) rfl (one4 _ _ _ _ _ _) ?_
              have hkF : Below wX.heap.size wX (wz.setRow N #[.int .i64 (o2.getD zeroPl).u, .int .i64 (o2.getD zeroPl).s, .int .i64 (o2.getD zeroPl).c, .slice A n c]) := below_row16 hkz hNlo _
              refine hK.out _ _ (HSE2.out _ hkF) (fun _ _ => trivial) ?_
              clear hK K'
              (try simp only [Act.put, List.setIfInBounds_toArray, List.set_cons_zero, List.set_cons_succ])
              refine wpAnyN_take false (i := 11) (oi := ⟨some 11, _, _, _, _, _⟩) (v := ?_) rfl (by kernel_rfl) (by kernel_rfl) (by kernel_rfl) (fun _ _ _ h => h) (Or.inl ⟨by kernel_rfl, ?_⟩) ⟨HSE2.out _ hkF, fun h => (by cases h)⟩ ?_
              rotate_left
              · (intro w hSw; obtain ⟨hSa, hSb⟩ := hSw; clear hSb; (try dsimp only at hSa); go_simp; try with_reducible rfl)
              (try simp only [Act.put, List.setIfInBounds_toArray, List.set_cons_zero, List.set_cons_succ])
              refine wpAnyN_done (by kernel_rfl) ?_
              go_wp2_with fail
              go_meet
              exact ⟨N, A, n, c, rfl, rfl, Lib.hid hNlo, Lib.hid (setRow_heap _ _ _ _ _ _ hnz), Lib.hid (PcsIn.setRow hpz (.inl fun h => h rfl)).any, Lib.hid hkF⟩
            · intro K' hK
              (try simp only [Act.put, List.setIfInBounds_toArray, List.set_cons_zero, List.set_cons_succ])
              obtain ⟨wy, N, hwz, hN, hNl, hby, hny⟩ := box_any wX.drew #[.int .i64 0, .int .i64 0, .int .i64 0, .slice none 0 0] 37
              go_simp
              have hky := hkd.trans (hby.mono hkd.size)
              have hNlo : wX.heap.size ≤ N := by have := hkd.size; omega
              refine hK.out _ _ (HSE2.out _ hky) (fun _ _ => trivial) ?_
              clear hK K'
              (try simp only [Act.put, List.setIfInBounds_toArray, List.set_cons_zero, List.set_cons_succ])
              refine wpAnyN_step (i := 5) (by kernel_rfl) rfl (by kernel_rfl) ?_
              intro K' hK
              (try simp only [Act.put, List.setIfInBounds_toArray, List.set_cons_zero, List.set_cons_succ])
              go_simp
              go_at_call 18; refine (HF2.out _ (HKX2.out.trans (hky.mono HKX2.out.size))).mono ?_; rintro e wa ⟨va, rfl, hpa, hba⟩
              obtain ⟨A, c, rfl, hq1, hq2, hq3⟩ := hpa
              obtain ⟨n, hn⟩ : ∃ n, (o2.getD zeroPl).ps.length = n := ⟨_, rfl⟩
              rw [hn]
              have hkz := hky.trans (hba.mono hky.size)
              refine hK.out _ _ (HSE2.out _ hkz) (fun _ _ => trivial) ?_
              clear hK K'
              (try simp only [Act.put, List.setIfInBounds_toArray, List.set_cons_zero, List.set_cons_succ])
              refine wpAnyN_take false (i := 6) (oi := ⟨some 52, _, _, _, _, _⟩) (v := ?_) rfl (by kernel_rfl) (by kernel_rfl) (by kernel_rfl) (fun _ _ _ h => h) (Or.inl ⟨by kernel_rfl, ?_⟩) ⟨HSE2.out _ hkz, fun h => (by cases h)⟩ ?_
              rotate_left
              · (intro w hSw; obtain ⟨hSa, hSb⟩ := hSw; clear hSb; (try dsimp only at hSa); go_simp; try with_reducible rfl)
              (try simp only [Act.put, List.setIfInBounds_toArray, List.set_cons_zero, List.set_cons_succ])
              refine wpAnyN_take false (i := 7) (oi := ⟨some 59, _, _, _, _, _⟩) (v := ?_) rfl (by kernel_rfl) (by kernel_rfl) (by kernel_rfl) (fun _ _ _ h => h) (Or.inl ⟨by kernel_rfl, ?_⟩) ⟨HSE2.out _ hkz, fun h => (by cases h)⟩ ?_
              rotate_left
              · (intro w hSw; obtain ⟨hSa, hSb⟩ := hSw; clear hSb; (try dsimp only at hSa); go_simp; try with_reducible rfl)
              (try simp only [Act.put, List.setIfInBounds_toArray, List.set_cons_zero, List.set_cons_succ])
              refine wpAnyN_take false (i := 8) (oi := ⟨some 60, _, _, _, _, _⟩) (v := ?_) rfl (by kernel_rfl) (by kernel_rfl) (by kernel_rfl) (fun _ _ _ h => h) (Or.inl ⟨by kernel_rfl, ?_⟩) ⟨HSE2.out _ hkz, fun h => (by cases h)⟩ ?_
              rotate_left
              · (intro w hSw; obtain ⟨hSa, hSb⟩ := hSw; clear hSb; (try dsimp only at hSa); go_simp; try with_reducible rfl)
              (try simp only [Act.put, List.setIfInBounds_toArray, List.set_cons_zero, List.set_cons_succ])
              obtain ⟨wz, hwz2⟩ : ∃ wz, wz = wa := ⟨_, rfl⟩
              subst hwz2
              have hnz := keep_block hny hba
              have hpa : PcsIn (fun b => b < w2.heap.size) wz (.slice A n c) (o2.getD zeroPl).ps := ⟨A, c, by rw [hn], hq1, hq2, hq3⟩
              have hpz : PcsIn (fun b => b ≠ N) wz (.slice A n c) (o2.getD zeroPl).ps := hpa.mono fun b _ hg => by have := HKX2.out.size; omega
              refine wpAnyN_step (i := 10) (by kernel_rfl) rfl (by kernel_rfl) ?_
              intro K' hK
              (try simp only [Act.put, List.setIfInBounds_toArray, List.set_cons_zero, List.set_cons_succ])
              refine wp_store_row _ _ _ rfl N #[.int .i64 (o2.getD zeroPl).u, .int .i64 (o2.getD zeroPl).s, .int .i64 (o2.getD zeroPl).c, .slice A n c] (by simp [Act.eval, Act.put]) (by simp [Act.eval, Act.put]) 37 #[.int .i64 0, .int .i64 0, .int .i64 0, .slice none 0 0] hnz (Try.sizePl _ _ _ _) rfl (one4 _ _ _ _ _ _) ?_
              have hkF : Below wX.heap.size wX (wz.setRow N #[.int .i64 (o2.getD zeroPl).u, .int .i64 (o2.getD zeroPl).s, .int .i64 (o2.getD zeroPl).c, .slice A n c]) := below_row16 hkz hNlo _
              refine hK.out _ _ (HSE2.out _ hkF) (fun _ _ => trivial) ?_
              clear hK K'
              (try simp only [Act.put, List.setIfInBounds_toArray, List.set_cons_zero, List.set_cons_succ])
              refine wpAnyN_take false (i := 11) (oi := ⟨some 11, _, _, _, _, _⟩) (v := ?_) rfl (by kernel_rfl) (by kernel_rfl) (by kernel_rfl) (fun _ _ _ h => h) (Or.inl ⟨by kernel_rfl, ?_⟩) ⟨HSE2.out _ hkF, fun h => (by cases h)⟩ ?_
              rotate_left
              · (intro w hSw; obtain ⟨hSa, hSb⟩ := hSw; clear hSb; (try dsimp only at hSa); go_simp; try with_reducible rfl)
              (try simp only [Act.put, List.setIfInBounds_toArray, List.set_cons_zero, List.set_cons_succ])
              refine wpAnyN_done (by kernel_rfl) ?_
              go_wp2_with fail
              go_meet
              exact ⟨N, A, n, c, rfl, rfl, Lib.hid hNlo, Lib.hid (setRow_heap _ _ _ _ _ _ hnz), Lib.hid (PcsIn.setRow hpz (.inl fun h => h rfl)).any, Lib.hid hkF⟩
          case rest =>
            obtain ⟨N2, A2, n2, d2, rfl, rfl, HNL2, HX2, HPX2, HKY⟩ := hcut
            obtain ⟨wY, hwY⟩ : ∃ w, w = wc := ⟨_, rfl⟩
            subst hwY
            have HKR : Hid (Below wr.heap.size wr wY) := Lib.hid (HKX.out.trans (HKY.out.mono HKX.out.size))
            have HX1Y := Lib.hid (keep_block HX1.out HKY.out)
            have HP1Y := Lib.hid (HPX1.out.keep HKY.out)
            have HC1Y := Lib.hid (HPC1.out.keep HKR.out)
            have HC2Y := Lib.hid (HPC2.out.keep HKR.out)
            obtain ⟨x, hx⟩ : ∃ x, o1.getD zeroPl = x := ⟨_, rfl⟩
            obtain ⟨y, hy⟩ : ∃ x, o2.getD zeroPl = x := ⟨_, rfl⟩
            rw [hx] at HX1Y HP1Y HC1Y HCL
            rw [hy] at HX2 HPX2 HC2Y HCL
            have hn1 : n1 = x.ps.length := by
              obtain ⟨A, c, e, _⟩ := HP1Y.out
              injection e
            have hn2 : n2 = y.ps.length := by
              obtain ⟨A, c, e, _⟩ := HPX2.out
              injection e
            have HPX := Lib.hid (fun W (hk : Below wY.heap.size wY W) => refSamePlace_any (.slice B1 x.ps.length e1) (.slice A1 n1 d1) x x W (HC1Y.out.keep hk) (HP1Y.out.keep hk))
            have HPY := Lib.hid (fun W (hk : Below wY.heap.size wY W) => refSamePlace_any (.slice B2 y.ps.length e2) (.slice A2 n2 d2) y y W (HC2Y.out.keep hk) (HPX2.out.keep hk))
            rw [decide_eq_true rfl] at HPX HPY
            unfold plA at HPX HPY
            rw [← hn1] at HPX HCL
            rw [← hn2] at HPY HCL
            obtain ⟨xu, hxu⟩ : ∃ n, x.u = n := ⟨_, rfl⟩
            obtain ⟨xs', hxs⟩ : ∃ n, x.s = n := ⟨_, rfl⟩
            obtain ⟨xc, hxc⟩ : ∃ n, x.c = n := ⟨_, rfl⟩
            obtain ⟨yu, hyu⟩ : ∃ n, y.u = n := ⟨_, rfl⟩
            obtain ⟨ys, hys⟩ : ∃ n, y.s = n := ⟨_, rfl⟩
            obtain ⟨yc, hyc⟩ : ∃ n, y.c = n := ⟨_, rfl⟩
            rw [hxu, hxs, hxc] at HPX HX1Y HCL
            rw [hyu, hys, hyc] at HPY HX2 HCL
            have HSN : Hid (∀ W, Below wY.heap.size wY W → W.cell? ⟨cb, coff + i * 9, none⟩ = some (.int .i64 un) ∧ W.cell? ⟨cb, coff + i * 9 + 1, none⟩ = some (.int .i64 xu) ∧ W.cell? ⟨cb, coff + i * 9 + 2, none⟩ = some (.int .i64 xs') ∧ W.cell? ⟨cb, coff + i * 9 + 3, none⟩ = some (.int .i64 xc) ∧ W.cell? ⟨cb, coff + i * 9 + 4, none⟩ = some (.slice B1 n1 e1) ∧ W.cell? ⟨cb, coff + i * 9 + 5, none⟩ = some (.int .i64 yu) ∧ W.cell? ⟨cb, coff + i * 9 + 6, none⟩ = some (.int .i64 ys) ∧ W.cell? ⟨cb, coff + i * 9 + 7, none⟩ = some (.int .i64 yc) ∧ W.cell? ⟨cb, coff + i * 9 + 8, none⟩ = some (.slice B2 n2 e2) ∧ W.cell? ⟨lb', loff + i, none⟩ = some (.int .i64 un) ∧ W.cell? ⟨N1, 0, none⟩ = some (.int .i64 xu) ∧ W.cell? ⟨N1, 1, none⟩ = some (.int .i64 xs') ∧ W.cell? ⟨N1, 2, none⟩ = some (.int .i64 xc) ∧ W.cell? ⟨N1, 3, none⟩ = some (.slice A1 n1 d1) ∧ W.cell? ⟨N2, 0, none⟩ = some (.int .i64 yu) ∧ W.cell? ⟨N2, 1, none⟩ = some (.int .i64 ys) ∧ W.cell? ⟨N2, 2, none⟩ = some (.int .i64 yc) ∧ W.cell? ⟨N2, 3, none⟩ = some (.slice A2 n2 d2)) := Lib.hid (fun W hk => by
              have hkr := HKR.out.trans (hk.mono HKR.out.size)
              obtain ⟨g0, g1, g2, g3, g4, g5, g6, g7, g8⟩ := HCL.out
              obtain ⟨x0, x1, x2, x3⟩ := four_heads (keep_block HX1Y.out hk)
              obtain ⟨y0, y1, y2, y3⟩ := four_heads (keep_block HX2.out hk)
              exact ⟨(hkr.cell (p := ⟨cb, coff + i * 9, none⟩) hcl).trans g0, (hkr.cell (p := ⟨cb, coff + i * 9 + 1, none⟩) hcl).trans g1, (hkr.cell (p := ⟨cb, coff + i * 9 + 2, none⟩) hcl).trans g2, (hkr.cell (p := ⟨cb, coff + i * 9 + 3, none⟩) hcl).trans g3, (hkr.cell (p := ⟨cb, coff + i * 9 + 4, none⟩) hcl).trans g4, (hkr.cell (p := ⟨cb, coff + i * 9 + 5, none⟩) hcl).trans g5, (hkr.cell (p := ⟨cb, coff + i * 9 + 6, none⟩) hcl).trans g6, (hkr.cell (p := ⟨cb, coff + i * 9 + 7, none⟩) hcl).trans g7, (hkr.cell (p := ⟨cb, coff + i * 9 + 8, none⟩) hcl).trans g8, HCE.out W hkr, x0, x1, x2, x3, y0, y1, y2, y3⟩)
            have hkd : Below wY.heap.size wY wY.drew := (Below.refl _ _).drew
            have huu : (un != un) = false := by simp
            clear hx hy hn1 hn2 hxu hxs hxc hyu hys hyc hbl hcl
            go_wp2_with fail
            refine wp_region_held_drew (S := fun w' => w'.cell? ⟨cb, coff + i * 9, none⟩ = some (.int .i64 un) ∧ w'.cell? ⟨cb, coff + i * 9 + 1, none⟩ = some (.int .i64 xu) ∧ w'.cell? ⟨cb, coff + i * 9 + 2, none⟩ = some (.int .i64 xs') ∧ w'.cell? ⟨cb, coff + i * 9 + 3, none⟩ = some (.int .i64 xc) ∧ w'.cell? ⟨cb, coff + i * 9 + 4, none⟩ = some (.slice B1 n1 e1) ∧ w'.cell? ⟨cb, coff + i * 9 + 5, none⟩ = some (.int .i64 yu) ∧ w'.cell? ⟨cb, coff + i * 9 + 6, none⟩ = some (.int .i64 ys) ∧ w'.cell? ⟨cb, coff + i * 9 + 7, none⟩ = some (.int .i64 yc) ∧ w'.cell? ⟨cb, coff + i * 9 + 8, none⟩ = some (.slice B2 n2 e2) ∧ w'.cell? ⟨lb', loff + i, none⟩ = some (.int .i64 un) ∧ w'.cell? ⟨N1, 0, none⟩ = some (.int .i64 xu) ∧ w'.cell? ⟨N1, 1, none⟩ = some (.int .i64 xs') ∧ w'.cell? ⟨N1, 2, none⟩ = some (.int .i64 xc) ∧ w'.cell? ⟨N1, 3, none⟩ = some (.slice A1 n1 d1) ∧ w'.cell? ⟨N2, 0, none⟩ = some (.int .i64 yu) ∧ w'.cell? ⟨N2, 1, none⟩ = some (.int .i64 ys) ∧ w'.cell? ⟨N2, 2, none⟩ = some (.int .i64 yc) ∧ w'.cell? ⟨N2, 3, none⟩ = some (.slice A2 n2 d2)) (by kernel_rfl) ?_ (fun hHeld => ?_)
            · exact HSN.out _ hkd
            refine wpAnyH_take (i := 0) (oi := ⟨some 61, _, _, _, _, _⟩) (v := ?_) rfl (by kernel_rfl) (by kernel_rfl) (by kernel_rfl) (fun _ _ _ h => h) (Or.inl ⟨by kernel_rfl, ?_⟩) (by assumption) ?_
            rotate_left
            · (intro w hSw; (try dsimp only at hSw); go_simp; try with_reducible rfl)
            (try simp only [Act.put, List.setIfInBounds_toArray, List.set_cons_zero, List.set_cons_succ])
            refine wpAnyH_take (i := 1) (oi := ⟨some 62, _, _, _, _, _⟩) (v := ?_) rfl (by kernel_rfl) (by kernel_rfl) (by kernel_rfl) (fun _ _ _ h => h) (Or.inl ⟨by kernel_rfl, ?_⟩) (by assumption) ?_
            rotate_left
            · (intro w hSw; (try dsimp only at hSw); go_simp; try with_reducible rfl)
            (try simp only [Act.put, List.setIfInBounds_toArray, List.set_cons_zero, List.set_cons_succ])
            refine wpAnyH_take (i := 2) (oi := ⟨some 63, _, _, _, _, _⟩) (v := ?_) rfl (by kernel_rfl) (by kernel_rfl) (by kernel_rfl) (fun _ _ _ h => h) (Or.inl ⟨by kernel_rfl, ?_⟩) (by assumption) ?_
            rotate_left
            · (intro w hSw; (try dsimp only at hSw); go_simp; try with_reducible rfl)
            (try simp only [Act.put, List.setIfInBounds_toArray, List.set_cons_zero, List.set_cons_succ])
            refine wpAnyH_take (i := 3) (oi := ⟨some 64, _, _, _, _, _⟩) (v := ?_) rfl (by kernel_rfl) (by kernel_rfl) (by kernel_rfl) (fun _ _ _ h => h) (Or.inl ⟨by kernel_rfl, ?_⟩) (by assumption) ?_
            rotate_left
            · (intro w hSw; (try dsimp only at hSw); go_simp; try with_reducible rfl)
            (try simp only [Act.put, List.setIfInBounds_toArray, List.set_cons_zero, List.set_cons_succ])
            refine wpAnyH_take (i := 4) (oi := ⟨some 65, _, _, _, _, _⟩) (v := ?_) rfl (by kernel_rfl) (by kernel_rfl) (by kernel_rfl) (fun _ _ _ h => h) (Or.inl ⟨by kernel_rfl, ?_⟩) (by assumption) ?_
            rotate_left
            · (intro w hSw; (try dsimp only at hSw); go_simp; try with_reducible rfl)
            (try simp only [Act.put, List.setIfInBounds_toArray, List.set_cons_zero, List.set_cons_succ])
            refine wpAnyH_take (i := 5) (oi := ⟨some 66, _, _, _, _, _⟩) (v := ?_) rfl (by kernel_rfl) (by kernel_rfl) (by kernel_rfl) (fun _ _ _ h => h) (Or.inl ⟨by kernel_rfl, ?_⟩) (by assumption) ?_
            rotate_left
            · (intro w hSw; (try dsimp only at hSw); go_simp; try with_reducible rfl)
            (try simp only [Act.put, List.setIfInBounds_toArray, List.set_cons_zero, List.set_cons_succ])
            refine wpAnyH_take (i := 6) (oi := ⟨some 67, _, _, _, _, _⟩) (v := ?_) rfl (by kernel_rfl) (by kernel_rfl) (by kernel_rfl) (fun _ _ _ h => h) (Or.inl ⟨by kernel_rfl, ?_⟩) (by assumption) ?_
            rotate_left
            · (intro w hSw; (try dsimp only at hSw); go_simp; try with_reducible rfl)
            (try simp only [Act.put, List.setIfInBounds_toArray, List.set_cons_zero, List.set_cons_succ])
            refine wpAnyH_take (i := 7) (oi := ⟨some 68, _, _, _, _, _⟩) (v := ?_) rfl (by kernel_rfl) (by kernel_rfl) (by kernel_rfl) (fun _ _ _ h => h) (Or.inl ⟨by kernel_rfl, ?_⟩) (by assumption) ?_
            rotate_left
            · (intro w hSw; (try dsimp only at hSw); go_simp; try with_reducible rfl)
            (try simp only [Act.put, List.setIfInBounds_toArray, List.set_cons_zero, List.set_cons_succ])
            refine wpAnyH_take (i := 8) (oi := ⟨some 69, _, _, _, _, _⟩) (v := ?_) rfl (by kernel_rfl) (by kernel_rfl) (by kernel_rfl) (fun _ _ _ h => h) (Or.inl ⟨by kernel_rfl, ?_⟩) (by assumption) ?_
            rotate_left
            · (intro w hSw; (try dsimp only at hSw); go_simp; try with_reducible rfl)
            (try simp only [Act.put, List.setIfInBounds_toArray, List.set_cons_zero, List.set_cons_succ])
            refine wpAnyH_take (i := 9) (oi := ⟨some 70, _, _, _, _, _⟩) (v := ?_) rfl (by kernel_rfl) (by kernel_rfl) (by kernel_rfl) (fun _ _ _ h => h) (Or.inl ⟨by kernel_rfl, ?_⟩) (by assumption) ?_
            rotate_left
            · (intro w hSw; (try dsimp only at hSw); go_simp; try with_reducible rfl)
            (try simp only [Act.put, List.setIfInBounds_toArray, List.set_cons_zero, List.set_cons_succ])
            refine wpAnyH_take (i := 10) (oi := ⟨some 71, _, _, _, _, _⟩) (v := ?_) rfl (by kernel_rfl) (by kernel_rfl) (by kernel_rfl) (fun _ _ _ h => h) (Or.inl ⟨by kernel_rfl, ?_⟩) (by assumption) ?_
            rotate_left
            · (intro w hSw; (try dsimp only at hSw); go_simp; try with_reducible rfl)
            (try simp only [Act.put, List.setIfInBounds_toArray, List.set_cons_zero, List.set_cons_succ])
            refine wpAnyH_take (i := 11) (oi := ⟨some 72, _, _, _, _, _⟩) (v := ?_) rfl (by kernel_rfl) (by kernel_rfl) (by kernel_rfl) (fun _ _ _ h => h) (Or.inl ⟨by kernel_rfl, ?_⟩) (by assumption) ?_
            rotate_left
            · (intro w hSw; (try dsimp only at hSw); go_simp; try with_reducible rfl)
            (try simp only [Act.put, List.setIfInBounds_toArray, List.set_cons_zero, List.set_cons_succ])
            refine wpAnyH_take (i := 12) (oi := ⟨some 73, _, _, _, _, _⟩) (v := ?_) rfl (by kernel_rfl) (by kernel_rfl) (by kernel_rfl) (fun _ _ _ h => h) (Or.inl ⟨by kernel_rfl, ?_⟩) (by assumption) ?_
            rotate_left
            · (intro w hSw; (try dsimp only at hSw); go_simp; try with_reducible rfl)
            (try simp only [Act.put, List.setIfInBounds_toArray, List.set_cons_zero, List.set_cons_succ])
            refine wpAnyH_take (i := 13) (oi := ⟨some 74, _, _, _, _, _⟩) (v := ?_) rfl (by kernel_rfl) (by kernel_rfl) (by kernel_rfl) (fun _ _ _ h => h) (Or.inl ⟨by kernel_rfl, ?_⟩) (by assumption) ?_
            rotate_left
            · (intro w hSw; (try dsimp only at hSw); go_simp; try with_reducible rfl)
            (try simp only [Act.put, List.setIfInBounds_toArray, List.set_cons_zero, List.set_cons_succ])
            refine wpAnyH_take (i := 14) (oi := ⟨some 75, _, _, _, _, _⟩) (v := ?_) rfl (by kernel_rfl) (by kernel_rfl) (by kernel_rfl) (fun _ _ _ h => h) (Or.inl ⟨by kernel_rfl, ?_⟩) (by assumption) ?_
            rotate_left
            · (intro w hSw; (try dsimp only at hSw); go_simp; try with_reducible rfl)
            (try simp only [Act.put, List.setIfInBounds_toArray, List.set_cons_zero, List.set_cons_succ])
            refine wpAnyH_take (i := 15) (oi := ⟨some 76, _, _, _, _, _⟩) (v := ?_) rfl (by kernel_rfl) (by kernel_rfl) (by kernel_rfl) (fun _ _ _ h => h) (Or.inl ⟨by kernel_rfl, ?_⟩) (by assumption) ?_
            rotate_left
            · (intro w hSw; (try dsimp only at hSw); go_simp; try with_reducible rfl)
            (try simp only [Act.put, List.setIfInBounds_toArray, List.set_cons_zero, List.set_cons_succ])
            refine wpAnyH_take (i := 16) (oi := ⟨some 77, _, _, _, _, _⟩) (v := ?_) rfl (by kernel_rfl) (by kernel_rfl) (by kernel_rfl) (fun _ _ _ h => h) (Or.inl ⟨by kernel_rfl, ?_⟩) (by assumption) ?_
            rotate_left
            · (intro w hSw; (try dsimp only at hSw); go_simp; try with_reducible rfl)
            (try simp only [Act.put, List.setIfInBounds_toArray, List.set_cons_zero, List.set_cons_succ])
            refine wpAnyH_ready (rs := [17]) (by kernel_rfl) (by simp) ?_
            refine AllReadyH.cons (o := ⟨some 78, _, _, _, _, _⟩) rfl (fun K hK => ?_) AllReadyH.nil
            rw [if_pos (by kernel_rfl)]
            go_simp
            go_at_call 19; refine (HPX.out _ hkd).mono ?_; rintro e wa ⟨rfl, hba⟩
            have hka := hkd.trans (hba.mono hkd.size)
            refine hK.out _ _ ?_ (fun hHeld => ?_)
            · exact HSN.out _ hka
            clear hK K
            (try simp only [Act.put, List.setIfInBounds_toArray, List.set_cons_zero, List.set_cons_succ])
            refine wpAnyH_take (i := 18) (oi := ⟨some 79, _, _, _, _, _⟩) (v := ?_) rfl (by kernel_rfl) (by kernel_rfl) (by kernel_rfl) (fun _ _ _ h => h) (Or.inl ⟨by kernel_rfl, ?_⟩) (by assumption) ?_
            rotate_left
            · (intro w hSw; (try dsimp only at hSw); go_simp; try with_reducible rfl)
            (try simp only [Act.put, List.setIfInBounds_toArray, List.set_cons_zero, List.set_cons_succ])
            refine wpAnyH_take (i := 19) (oi := ⟨some 80, _, _, _, _, _⟩) (v := ?_) rfl (by kernel_rfl) (by kernel_rfl) (by kernel_rfl) (fun _ _ _ h => h) (Or.inl ⟨by kernel_rfl, ?_⟩) (by assumption) ?_
            rotate_left
            · (intro w hSw; (try dsimp only at hSw); go_simp; try with_reducible rfl)
            (try simp only [Act.put, List.setIfInBounds_toArray, List.set_cons_zero, List.set_cons_succ])
            refine wpAnyH_take (i := 20) (oi := ⟨some 81, _, _, _, _, _⟩) (v := ?_) rfl (by kernel_rfl) (by kernel_rfl) (by kernel_rfl) (fun _ _ _ h => h) (Or.inl ⟨by kernel_rfl, ?_⟩) (by assumption) ?_
            rotate_left
            · (intro w hSw; (try dsimp only at hSw); go_simp; try with_reducible rfl)
            (try simp only [Act.put, List.setIfInBounds_toArray, List.set_cons_zero, List.set_cons_succ])
            refine wpAnyH_take (i := 21) (oi := ⟨some 82, _, _, _, _, _⟩) (v := ?_) rfl (by kernel_rfl) (by kernel_rfl) (by kernel_rfl) (fun _ _ _ h => h) (Or.inl ⟨by kernel_rfl, ?_⟩) (by assumption) ?_
            rotate_left
            · (intro w hSw; (try dsimp only at hSw); go_simp; try with_reducible rfl)
            (try simp only [Act.put, List.setIfInBounds_toArray, List.set_cons_zero, List.set_cons_succ])
            refine wpAnyH_take (i := 22) (oi := ⟨some 83, _, _, _, _, _⟩) (v := ?_) rfl (by kernel_rfl) (by kernel_rfl) (by kernel_rfl) (fun _ _ _ h => h) (Or.inl ⟨by kernel_rfl, ?_⟩) (by assumption) ?_
            rotate_left
            · (intro w hSw; (try dsimp only at hSw); go_simp; try with_reducible rfl)
            (try simp only [Act.put, List.setIfInBounds_toArray, List.set_cons_zero, List.set_cons_succ])
            refine wpAnyH_take (i := 23) (oi := ⟨some 84, _, _, _, _, _⟩) (v := ?_) rfl (by kernel_rfl) (by kernel_rfl) (by kernel_rfl) (fun _ _ _ h => h) (Or.inl ⟨by kernel_rfl, ?_⟩) (by assumption) ?_
            rotate_left
            · (intro w hSw; (try dsimp only at hSw); go_simp; try with_reducible rfl)
            (try simp only [Act.put, List.setIfInBounds_toArray, List.set_cons_zero, List.set_cons_succ])
            refine wpAnyH_take (i := 24) (oi := ⟨some 85, _, _, _, _, _⟩) (v := ?_) rfl (by kernel_rfl) (by kernel_rfl) (by kernel_rfl) (fun _ _ _ h => h) (Or.inl ⟨by kernel_rfl, ?_⟩) (by assumption) ?_
            rotate_left
            · (intro w hSw; (try dsimp only at hSw); go_simp; try with_reducible rfl)
            (try simp only [Act.put, List.setIfInBounds_toArray, List.set_cons_zero, List.set_cons_succ])
            refine wpAnyH_take (i := 25) (oi := ⟨some 86, _, _, _, _, _⟩) (v := ?_) rfl (by kernel_rfl) (by kernel_rfl) (by kernel_rfl) (fun _ _ _ h => h) (Or.inl ⟨by kernel_rfl, ?_⟩) (by assumption) ?_
            rotate_left
            · (intro w hSw; (try dsimp only at hSw); go_simp; try with_reducible rfl)
            (try simp only [Act.put, List.setIfInBounds_toArray, List.set_cons_zero, List.set_cons_succ])
            refine wpAnyH_take (i := 26) (oi := ⟨some 87, _, _, _, _, _⟩) (v := ?_) rfl (by kernel_rfl) (by kernel_rfl) (by kernel_rfl) (fun _ _ _ h => h) (Or.inl ⟨by kernel_rfl, ?_⟩) (by assumption) ?_
            rotate_left
            · (intro w hSw; (try dsimp only at hSw); go_simp; try with_reducible rfl)
            (try simp only [Act.put, List.setIfInBounds_toArray, List.set_cons_zero, List.set_cons_succ])
            refine wpAnyH_ready (rs := [27]) (by kernel_rfl) (by simp) ?_
            refine AllReadyH.cons (o := ⟨some 88, _, _, _, _, _⟩) rfl (fun K hK => ?_) AllReadyH.nil
            rw [if_pos (by kernel_rfl)]
            go_simp
            go_at_call 19; refine (HPY.out _ hka).mono ?_; rintro e wb ⟨rfl, hbb⟩
            have hkb := hka.trans (hbb.mono hka.size)
            refine hK.out _ _ ?_ (fun hHeld => ?_)
            · exact HSN.out _ hkb
            clear hK K
            (try simp only [Act.put, List.setIfInBounds_toArray, List.set_cons_zero, List.set_cons_succ])
            refine wpAnyH_take (i := 28) (oi := ⟨some 89, _, _, _, _, _⟩) (v := ?_) rfl (by kernel_rfl) (by kernel_rfl) (by kernel_rfl) (fun _ _ _ h => h) (Or.inl ⟨by kernel_rfl, ?_⟩) (by assumption) ?_
            rotate_left
            · (intro w hSw; (try dsimp only at hSw); go_simp; try with_reducible rfl)
            (try simp only [Act.put, List.setIfInBounds_toArray, List.set_cons_zero, List.set_cons_succ])
            refine wpAnyH_take (i := 29) (oi := ⟨some 90, _, _, _, _, _⟩) (v := ?_) rfl (by kernel_rfl) (by kernel_rfl) (by kernel_rfl) (fun _ _ _ h => h) (Or.inl ⟨by kernel_rfl, ?_⟩) (by assumption) ?_
            rotate_left
            · (intro w hSw; (try dsimp only at hSw); go_simp; try with_reducible rfl)
            (try simp only [Act.put, List.setIfInBounds_toArray, List.set_cons_zero, List.set_cons_succ])
            refine wpAnyH_done (by kernel_rfl) ?_ _
            have HKN : Hid (Below w5.heap.size w5 wb) := Lib.hid (HBW.out.trans ((HKR.out.trans (hkb.mono HKR.out.size)).mono HBW.out.size))
            clear hHeld hkb hka hkd hba hbb
            go_wp2_with fail
            go_roundg (nx - (i + 1))
            case measure => have := HG.out; omega
            case rel => exact ⟨i + 1, by omega, rfl, by go_num, HKN⟩
      · have hltz : ¬ (i : Int) < (nx : Int) := by omega
        go_wp2_with fail
        refine (HAW.out _).mono ?_
        rintro e w9 ⟨rfl, hb9⟩
        have HBE := Lib.hid (HB2.out.trans ((HKW.out.trans (hb9.mono HKW.out.size)).mono HB2.out.size))
        clear hb9
        go_wp2_with fail
        go_ret
        exact ⟨rfl, HBE.out⟩
  · have HRN := Lib.hid (fun W hk => (HRI.out W hk).2 hgood)
    clear HRI hgood ho1 ho2 hm1 hm2
    go_enter Try.func4, Try.ntmps4
    go_wp2_with fail
    clear hw1 hw2 hP hQ
    refine (HRN.out _ HK0.out).mono ?_
    rintro e w3 ⟨rfl, hb⟩
    have HK1 := Lib.hid (HK0.out.trans (hb.mono HK0.out.size))
    clear hb p0 p1 p2 q0 q1 q2
    go_wp2_with fail
    refine (HAW.out _).mono ?_
    rintro e w5 ⟨rfl, hb5⟩
    have HBE := Lib.hid (HB2.out.trans ((HK1.out.trans (hb5.mono HK1.out.size)).mono HB2.out.size))
    clear hb5
    go_wp2_with fail
    go_ret
    exact ⟨rfl, HBE.out⟩
end Go.Proofs.Ytincbilobmhgeaa
