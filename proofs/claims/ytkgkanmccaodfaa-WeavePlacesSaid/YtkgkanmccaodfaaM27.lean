/-
  An argument that is a want, opened.
  Conditions: none.
-/
import Derived.Test.YtkgkanmccaodfaaM26
import Derived.Test.YtkgkanmccaodfaaM08
import Derived.Test.YtkgkanmccaodfaaM02
import Derived.OpenShut
import Derived.ChangeSlices
import Derived.ChangeOld
import Derived.ChangeArms
import Derived.Deep.SlicePairs
import Derived.Deep.Slices
import Derived.Deep.Fields
import Derived.Lib.SmallJoins

/-
  The law of plans with what was woven: WeaveFits.
  Conditions: the slice reads as places; the numbers are of their kinds.
-/
set_option linter.unusedVariables false
set_option linter.unusedSimpArgs false
namespace Go.Proofs.Ytkgkanmccaodfaa
open Go.RowKit

theorem woven_ok {f : Int} {m : Nat} {l : List Pl} {u s : Int} (hr : Right f m l) (hu : Int64 u) (hs : Int64 s) : PlOk (wovenP f m l (u, s)) ∧ (wovenP f m l (u, s)).ps.length ≤ 1000 := by
  refine ⟨⟨hu, hs, ⟨by show (-9223372036854775808 : Int) ≤ 0; decide, by show (0 : Int) ≤ _; decide⟩, fun y hy => ?_⟩, ?_⟩
  · obtain ⟨c, hc, _, rfl⟩ := mk_mem hy
    refine ⟨⟨by show (-9223372036854775808 : Int) ≤ (c : Int); omega, by show (c : Int) ≤ 9223372036854775807; omega⟩, ?_⟩
    have hf := hr.f64
    exact wv_lt _ _ _ _ _ (by omega)
  · have := mk_few (wovenS f m l s).gv 16
    show (mkP (wovenS f m l s).gv 16).length ≤ 1000
    omega

set_option maxRecDepth 100000 in
set_option maxHeartbeats 16000000 in
theorem fits_law (f : Int) (m : Nat) (v : Value) (l : List Pl) (u s : Int) (w : World) (h : PlsAt w v l) (ho : ∀ x ∈ l, PlOk x) (hm : m < 4294967296) (hu : Int64 u) (hs : Int64 s) :
    Calls Try.prog 5 #[planA f m v, .agg #[.int .i64 u, .int .i64 s]] w (RetB (.bool true) w) := by
  have mixed : Try.prog.follows .mixedOrders = true := by kernel_rfl
  have HAW := Lib.hid (fun W => awake21_any W)
  obtain ⟨w1, P, hw1, hP, hPl, hb1, hbox⟩ := box_any w #[.int .i64 f, .int .u32 m, v] 25
  obtain ⟨w2, Q, hw2, hQ, hQl, hb2, hqox⟩ := box_any w1 #[.int .i64 u, .int .i64 s] 35
  have HB2 := Lib.hid (hb1.trans (hb2.mono hb1.size))
  have HPB := Lib.hid (keep_block hbox hb2)
  have HQB := Lib.hid hqox
  have HPL : Hid (∀ W, Below w2.heap.size w2 W → PlsAt W v l) := Lib.hid (fun W hk => h.keep (HB2.out.trans (hk.mono HB2.out.size)))
  have HLI := Lib.hid (fun W (hk : Below w2.heap.size w2 W) => calls_iff (light_any f m v l W (HPL.out W hk)))
  have HSA : Hid (∀ W, Below w2.heap.size w2 W → W.cell? ⟨P, 0, none⟩ = some (.int .i64 f) ∧ W.cell? ⟨P, 1, none⟩ = some (.int .u32 m) ∧ W.cell? ⟨P, 2, none⟩ = some v ∧ W.cell? ⟨Q, 0, none⟩ = some (.int .i64 u) ∧ W.cell? ⟨Q, 1, none⟩ = some (.int .i64 s)) := Lib.hid (fun W hk => by
    obtain ⟨a, b, c⟩ := three_heads (keep_block HPB.out hk)
    obtain ⟨d, e⟩ := two_heads (keep_block HQB.out hk)
    exact ⟨a, b, c, d, e⟩)
  have HK1 := Lib.hid (Below.refl w2.heap.size w2)
  obtain ⟨r0, r1, r2, q0, q1⟩ := HSA.out _ HK1.out
  unfold planA at HLI ⊢
  clear h hb1 hb2 hbox hqox
  by_cases hlit : Lit l
  · have hL := hlit.light ho
    have HLIT := Lib.hid hlit
    have HLY := Lib.hid (fun W hk => (HLI.out W hk).1 hlit)
    have HRI := Lib.hid (fun W hk => calls_iff (right_any f m v l W (HPL.out W hk) hL hm))
    have HPA := Lib.hid (fun W h => wvPlace_any f m v l u s W h hL hm hu hs)
    have HL := Lib.hid hL
    have HMM := Lib.hid hm
    have HUS := Lib.hid (show Int64 u ∧ Int64 s from ⟨hu, hs⟩)
    unfold planA at HRI HPA
    clear HLI hlit hL ho hm hu hs
    go_enter Try.func5, Try.ntmps5
    go_wp2_with fail
    refine (HLY.out _ HK1.out).mono ?_
    rintro e w3 ⟨rfl, hb3⟩
    have HK3 := Lib.hid hb3
    clear hb3 r0 r1 r2 q0 q1 hw1 hP hw2 hQ
    obtain ⟨r0, r1, r2, q0, q1⟩ := HSA.out _ HK3.out
    go_wp2_with fail
    by_cases hr : Right f m l
    · have HRT := Lib.hid hr
      refine ((HRI.out _ HK3.out).1 hr).mono ?_
      rintro e w3' ⟨rfl, hb3⟩
      have HKIN := Lib.hid (HK3.out.trans (hb3.mono HK3.out.size))
      clear hb3 hr r0 r1 r2 q0 q1
      obtain ⟨r0, r1, r2, q0, q1⟩ := HSA.out _ HKIN.out
      go_wp2_with fail
      refine (HPA.out _ (HPL.out _ HKIN.out)).mono ?_
      rintro e w4 hret
      obtain ⟨E, x, A, n, c, rfl, hwhy, hb4, hx4, hcase⟩ := hret.form
      obtain ⟨w5, X, hw5, hX, hXl, hb5, hxb⟩ := box_any w4 #[.int .i64 0, .int .i64 0, .int .i64 0, .slice none 0 0] 38
      have HXB := Lib.hid hxb
      obtain ⟨xu, hxu⟩ : ∃ xu, x.u = xu := ⟨_, rfl⟩
      obtain ⟨xs, hxs⟩ : ∃ xs, x.s = xs := ⟨_, rfl⟩
      rw [hxu, hxs]
      have HXE : Hid (x = ⟨xu, xs, 0, x.ps⟩) := Lib.hid (Pl.ext' hxu hxs (by rcases hcase with ⟨_, rfl⟩ | ⟨_, rfl⟩ <;> rfl) rfl)
      obtain ⟨w6, hw6⟩ : ∃ w6, w5.setRow X #[.int .i64 xu, .int .i64 xs, .int .i64 0, .slice A n c] = w6 := ⟨_, rfl⟩
      have hb6 : Below w4.heap.size w4 w6 := by rw [← hw6]; exact below_row hb5 (by omega) _
      have HK6 := Lib.hid (HKIN.out.trans ((hb4.trans (hb6.mono hb4.size)).mono HKIN.out.size))
      have HX6 : Hid (w6.heap[X]? = some (.cells #[.int .i64 xu, .int .i64 xs, .int .i64 0, .slice A n c] 38 (0, 0))) := Lib.hid (by rw [← hw6]; exact setRow_heap _ _ _ _ _ _ hxb)
      have HPX6 : Hid (∀ W, Below w6.heap.size w6 W → PcsAt W (.slice A n c) x.ps) := Lib.hid (fun W hk => (hx4.keep hb6).keep hk)
      have HSX : Hid (∀ W, Below w6.heap.size w6 W → W.cell? ⟨P, 0, none⟩ = some (.int .i64 f) ∧ W.cell? ⟨P, 1, none⟩ = some (.int .u32 m) ∧ W.cell? ⟨P, 2, none⟩ = some v ∧ W.cell? ⟨Q, 0, none⟩ = some (.int .i64 u) ∧ W.cell? ⟨Q, 1, none⟩ = some (.int .i64 s) ∧ W.cell? ⟨X, 0, none⟩ = some (.int .i64 xu) ∧ W.cell? ⟨X, 1, none⟩ = some (.int .i64 xs) ∧ W.cell? ⟨X, 2, none⟩ = some (.int .i64 0) ∧ W.cell? ⟨X, 3, none⟩ = some (.slice A n c)) := Lib.hid (fun W hk => by
        obtain ⟨a0, a1, a2, a3, a4⟩ := HSA.out W (HK6.out.trans (hk.mono HK6.out.size))
        obtain ⟨b0, b1, b2, b3⟩ := four_heads (keep_block HX6.out hk)
        exact ⟨a0, a1, a2, a3, a4, b0, b1, b2, b3⟩)
      have HWH := Lib.hid hwhy
      have HCA := Lib.hid hcase
      have HX0 := Lib.hid (Below.refl w6.heap.size w6)
      clear hret hb4 hb5 hb6 hx4 hxb hwhy hcase hxu hxs r0 r1 r2 q0 q1
      obtain ⟨r0, r1, r2, q0, q1, x0, x1, x2, x3⟩ := HSX.out _ HX0.out
      by_cases hE : E = 0
      · subst hE
        have HXW : Hid (x = wovenP f m l (u, s)) := Lib.hid (HCA.out.resolve_left fun h => h.1 rfl).2
        have HGO := Lib.hid HWH.out.zero
        obtain ⟨hRq, h2q, hfq⟩ := HGO.out.right
        have hxe := HXE.out
        rw [HXW.out] at hxe
        have hxu : u = xu := congrArg Pl.u hxe
        have hxs : s = xs := congrArg Pl.s hxe
        subst hxu
        subst hxs
        have hn2 : (wovenP f m l (u, s)).ps.length = n := by
          obtain ⟨A', c', h1, _⟩ := HPX6.out _ HX0.out
          simp only [Value.slice.injEq] at h1
          rw [← HXW.out]
          exact h1.2.1.symm
        have hn16 : n ≤ 16 := by rw [← hn2]; exact mk_few _ 16
        have hge : decide ((2 : Int) ≤ (n : Int)) = true := decide_eq_true (by omega)
        have HPU : Hid (∀ W, Below w6.heap.size w6 W → Calls Try.prog 19 #[planA f m v, plA (.slice A n c) (wovenP f m l (u, s))] W (RetPn (fun b => Any b ∨ W.heap.size ≤ b) f m (addU l (wovenP f m l (u, s))) W)) := Lib.hid (fun W hk => by
          have hd : dropT l u = l := drop_absent fun y hy => anyB_no HGO.out.goes.none y hy (u, s) (List.mem_singleton.2 rfl)
          have hps := HPX6.out W hk
          rw [HXW.out] at hps
          exact refPut_any Any f m v (.slice A n c) l (wovenP f m l (u, s)) W (HPL.out W (HK6.out.trans (hk.mono HK6.out.size))) hps (by have := HL.out.len; omega) (posU (dropT l u) u) (posU_at u _ (by show Asc (dropT l u); rw [hd]; exact HRT.out.pairs)))
        have HLQ : Hid (LightL (addU l (wovenP f m l (u, s)))) := Lib.hid ⟨by
          unfold addU
          rw [putPl_length]
          have h1 : (dropT l u).length ≤ l.length := List.length_filter_le _ _
          have h2 := HLIT.out.2
          show (dropT l u).length + 1 ≤ 300
          omega, fun y hy => by
          unfold addU at hy
          rcases putPl_mem.1 hy with rfl | hy
          · exact woven_ok HRT.out HUS.out.1 HUS.out.2
          · exact HL.out.ok y (List.mem_filter.1 hy).1⟩
        have HRQ0 := Lib.hid hRq
        obtain ⟨FP, hFP⟩ : ∃ FP, freeT f m l 16 = FP := ⟨_, rfl⟩
        obtain ⟨FQ, hFQ⟩ : ∃ FQ, freeT f m (addU l (wovenP f m l (u, s))) 16 = FQ := ⟨_, rfl⟩
        have hbd := free_bound f m l HL.out (shares_of HRT.out.place HRT.out.f64) (by have := HRT.out.f2; omega) HRT.out.f64 16
        have hs64 : 1 ≤ s ∧ s ≤ f := ((WOk.of_chk HGO.out.goes.chk).2.all _ (List.mem_singleton.2 rfl)).2
        have hf64 := HRT.out.f64
        have hfq' : FQ = FP - s := by rw [← hFP, ← hFQ]; exact hfq
        rw [hFP] at hbd
        have hwf : IntKind.i64.wrap (FP - s) = FQ := by rw [hfq', IntKind.wrap_i64]; omega
        have HFPE := Lib.hid hFP
        have HFQE := Lib.hid hFQ
        unfold plA wovenP at HPU
        unfold planA at HPU
        clear hRq h2q hfq hxe hn2 hFP hFQ hbd hs64 hf64 hfq'
        go_wp2_with (refine wpList_store_row rfl _ _ _ rfl X #[.int .i64 u, .int .i64 s, .int .i64 0, .slice A n c] rfl rfl 38 _ HXB.out (Try.sizePl _ _ _ _) rfl (one4 _ _ _ _ _ _) ?_)
        clear hw5 hw6 hX
        refine (HPU.out _ HX0.out).mono ?_
        rintro e w7 ⟨v9, rfl, hp9, hb7⟩
        obtain ⟨A9, c9, hv9, _, _⟩ := hp9.form
        obtain ⟨Lq, hLq⟩ : ∃ Lq, addU l (wovenP f m l (u, s)) = Lq := ⟨_, rfl⟩
        have hp9' : PlsAt w7 v9 Lq := by rw [← hLq]; exact hp9.any
        have hv9' : v9 = .slice A9 Lq.length c9 := by rw [← hLq]; exact hv9
        rw [hLq] at HLQ HRQ0 HFQE
        obtain ⟨n9, hn9⟩ : ∃ n9, Lq.length = n9 := ⟨_, rfl⟩
        rw [hn9] at hv9'
        subst hv9'
        obtain ⟨w8, Y, hw8, hY, hYl, hb8, hyb⟩ := box_any w7 #[.int .i64 0, .int .u32 0, .slice none 0 0] 25
        have HYB := Lib.hid hyb
        obtain ⟨w9, hw9⟩ : ∃ w9, w8.setRow Y #[.int .i64 f, .int .u32 m, .slice A9 n9 c9] = w9 := ⟨_, rfl⟩
        have hb9 : Below w7.heap.size w7 w9 := by rw [← hw9]; exact below_row hb8 (by omega) _
        have HX9 := Lib.hid (hb7.trans (hb9.mono hb7.size))
        have HY9 : Hid (w9.heap[Y]? = some (.cells #[.int .i64 f, .int .u32 m, .slice A9 n9 c9] 25 (0, 0))) := Lib.hid (by rw [← hw9]; exact setRow_heap _ _ _ _ _ _ hyb)
        have HPQ : Hid (∀ W, Below w9.heap.size w9 W → PlsAt W (.slice A9 n9 c9) Lq) := Lib.hid (fun W hk => (hp9'.keep hb9).keep hk)
        have HSY : Hid (∀ W, Below w9.heap.size w9 W → W.cell? ⟨P, 0, none⟩ = some (.int .i64 f) ∧ W.cell? ⟨P, 1, none⟩ = some (.int .u32 m) ∧ W.cell? ⟨P, 2, none⟩ = some (v) ∧ W.cell? ⟨Q, 0, none⟩ = some (.int .i64 u) ∧ W.cell? ⟨Q, 1, none⟩ = some (.int .i64 s) ∧ W.cell? ⟨X, 0, none⟩ = some (.int .i64 u) ∧ W.cell? ⟨X, 1, none⟩ = some (.int .i64 s) ∧ W.cell? ⟨X, 2, none⟩ = some (.int .i64 0) ∧ W.cell? ⟨X, 3, none⟩ = some (.slice A n c) ∧ W.cell? ⟨Y, 0, none⟩ = some (.int .i64 f) ∧ W.cell? ⟨Y, 1, none⟩ = some (.int .u32 m) ∧ W.cell? ⟨Y, 2, none⟩ = some (.slice A9 n9 c9)) := Lib.hid (fun W hk => by
          obtain ⟨a0, a1, a2, a3, a4, a5, a6, a7, a8⟩ := HSX.out W (HX9.out.trans (hk.mono HX9.out.size))
          obtain ⟨b0, b1, b2⟩ := three_heads (keep_block HY9.out hk)
          exact ⟨a0, a1, a2, a3, a4, a5, a6, a7, a8, b0, b1, b2⟩)
        have HRQ := Lib.hid (fun W (hk : Below w9.heap.size w9 W) => (calls_iff (right_any f m (.slice A9 n9 c9) Lq W (HPQ.out W hk) HLQ.out HMM.out)).1 HRQ0.out)
        have HFQ := Lib.hid (fun W (hk : Below w9.heap.size w9 W) => refFree_any f m (.slice A9 n9 c9) Lq W (HPQ.out W hk) HLQ.out (shares_of HRQ0.out.place HRQ0.out.f64) HMM.out (by have := HRQ0.out.f2; omega) HRQ0.out.f64)
        have HFP := Lib.hid (fun W (hk : Below w9.heap.size w9 W) => refFree_any f m v l W (HPL.out W (HK6.out.trans ((HX9.out.trans (hk.mono HX9.out.size)).mono HK6.out.size))) HL.out (shares_of HRT.out.place HRT.out.f64) HMM.out (by have := HRT.out.f2; omega) HRT.out.f64)
        rw [HFQE.out] at HFQ
        rw [HFPE.out] at HFP
        unfold planA at HRQ HFQ HFP
        have HX90 := Lib.hid (Below.refl w9.heap.size w9)
        have hkd := HX90.out.drew
        clear hb7 hb8 hb9 hp9 hp9' hv9 hyb hn9 hLq r0 r1 r2 q0 q1 x0 x1 x2 x3
        unfold planA
        go_wp2_with (refine wpList_store_row rfl _ _ _ rfl Y #[.int .i64 f, .int .u32 m, .slice A9 n9 c9] rfl rfl 25 _ HYB.out (Try.sizePn _ _ _) rfl (one3 _ _ _ _ _) ?_)
        rw [hw9]
        clear hw8 hw9 hY
        refine wp_region_held_drew (S := fun w' => w'.cell? ⟨P, 0, none⟩ = some (.int .i64 f) ∧ w'.cell? ⟨P, 1, none⟩ = some (.int .u32 m) ∧ w'.cell? ⟨P, 2, none⟩ = some (v) ∧ w'.cell? ⟨Q, 0, none⟩ = some (.int .i64 u) ∧ w'.cell? ⟨Q, 1, none⟩ = some (.int .i64 s) ∧ w'.cell? ⟨X, 0, none⟩ = some (.int .i64 u) ∧ w'.cell? ⟨X, 1, none⟩ = some (.int .i64 s) ∧ w'.cell? ⟨X, 2, none⟩ = some (.int .i64 0) ∧ w'.cell? ⟨X, 3, none⟩ = some (.slice A n c) ∧ w'.cell? ⟨Y, 0, none⟩ = some (.int .i64 f) ∧ w'.cell? ⟨Y, 1, none⟩ = some (.int .u32 m) ∧ w'.cell? ⟨Y, 2, none⟩ = some (.slice A9 n9 c9)) (by kernel_rfl) ?_ (fun hHeld => ?_)
        · exact HSY.out _ hkd
        refine wpAnyH_take (i := 0) (oi := ⟨some 34, _, _, _, _, _⟩) (v := ?_) rfl (by kernel_rfl) (by kernel_rfl) (by kernel_rfl) (fun _ _ _ h => h) (Or.inl ⟨by kernel_rfl, ?_⟩) (by assumption) ?_
        rotate_left
        · (intro w hSw; (try dsimp only at hSw); go_simp; try with_reducible rfl)
        (try simp only [Act.put, List.setIfInBounds_toArray, List.set_cons_zero, List.set_cons_succ])
        refine wpAnyH_take (i := 1) (oi := ⟨some 35, _, _, _, _, _⟩) (v := ?_) rfl (by kernel_rfl) (by kernel_rfl) (by kernel_rfl) (fun _ _ _ h => h) (Or.inl ⟨by kernel_rfl, ?_⟩) (by assumption) ?_
        rotate_left
        · (intro w hSw; (try dsimp only at hSw); go_simp; try with_reducible rfl)
        (try simp only [Act.put, List.setIfInBounds_toArray, List.set_cons_zero, List.set_cons_succ])
        refine wpAnyH_take (i := 2) (oi := ⟨some 36, _, _, _, _, _⟩) (v := ?_) rfl (by kernel_rfl) (by kernel_rfl) (by kernel_rfl) (fun _ _ _ h => h) (Or.inl ⟨by kernel_rfl, ?_⟩) (by assumption) ?_
        rotate_left
        · (intro w hSw; (try dsimp only at hSw); go_simp; try with_reducible rfl)
        (try simp only [Act.put, List.setIfInBounds_toArray, List.set_cons_zero, List.set_cons_succ])
        refine wpAnyH_take (i := 3) (oi := ⟨some 37, _, _, _, _, _⟩) (v := ?_) rfl (by kernel_rfl) (by kernel_rfl) (by kernel_rfl) (fun _ _ _ h => h) (Or.inl ⟨by kernel_rfl, ?_⟩) (by assumption) ?_
        rotate_left
        · (intro w hSw; (try dsimp only at hSw); go_simp; try with_reducible rfl)
        (try simp only [Act.put, List.setIfInBounds_toArray, List.set_cons_zero, List.set_cons_succ])
        refine wpAnyH_take (i := 4) (oi := ⟨some 38, _, _, _, _, _⟩) (v := ?_) rfl (by kernel_rfl) (by kernel_rfl) (by kernel_rfl) (fun _ _ _ h => h) (Or.inl ⟨by kernel_rfl, ?_⟩) (by assumption) ?_
        rotate_left
        · (intro w hSw; (try dsimp only at hSw); go_simp; try with_reducible rfl)
        (try simp only [Act.put, List.setIfInBounds_toArray, List.set_cons_zero, List.set_cons_succ])
        refine wpAnyH_take (i := 5) (oi := ⟨some 39, _, _, _, _, _⟩) (v := ?_) rfl (by kernel_rfl) (by kernel_rfl) (by kernel_rfl) (fun _ _ _ h => h) (Or.inl ⟨by kernel_rfl, ?_⟩) (by assumption) ?_
        rotate_left
        · (intro w hSw; (try dsimp only at hSw); go_simp; try with_reducible rfl)
        (try simp only [Act.put, List.setIfInBounds_toArray, List.set_cons_zero, List.set_cons_succ])
        refine wpAnyH_take (i := 6) (oi := ⟨some 40, _, _, _, _, _⟩) (v := ?_) rfl (by kernel_rfl) (by kernel_rfl) (by kernel_rfl) (fun _ _ _ h => h) (Or.inl ⟨by kernel_rfl, ?_⟩) (by assumption) ?_
        rotate_left
        · (intro w hSw; (try dsimp only at hSw); go_simp; try with_reducible rfl)
        (try simp only [Act.put, List.setIfInBounds_toArray, List.set_cons_zero, List.set_cons_succ])
        refine wpAnyH_take (i := 7) (oi := ⟨some 41, _, _, _, _, _⟩) (v := ?_) rfl (by kernel_rfl) (by kernel_rfl) (by kernel_rfl) (fun _ _ _ h => h) (Or.inl ⟨by kernel_rfl, ?_⟩) (by assumption) ?_
        rotate_left
        · (intro w hSw; (try dsimp only at hSw); go_simp; try with_reducible rfl)
        (try simp only [Act.put, List.setIfInBounds_toArray, List.set_cons_zero, List.set_cons_succ])
        refine wpAnyH_take (i := 8) (oi := ⟨some 42, _, _, _, _, _⟩) (v := ?_) rfl (by kernel_rfl) (by kernel_rfl) (by kernel_rfl) (fun _ _ _ h => h) (Or.inl ⟨by kernel_rfl, ?_⟩) (by assumption) ?_
        rotate_left
        · (intro w hSw; (try dsimp only at hSw); go_simp; try with_reducible rfl)
        (try simp only [Act.put, List.setIfInBounds_toArray, List.set_cons_zero, List.set_cons_succ])
        refine wpAnyH_take (i := 9) (oi := ⟨some 43, _, _, _, _, _⟩) (v := ?_) rfl (by kernel_rfl) (by kernel_rfl) (by kernel_rfl) (fun _ _ _ h => h) (Or.inl ⟨by kernel_rfl, ?_⟩) (by assumption) ?_
        rotate_left
        · (intro w hSw; (try dsimp only at hSw); go_simp; try with_reducible rfl)
        (try simp only [Act.put, List.setIfInBounds_toArray, List.set_cons_zero, List.set_cons_succ])
        refine wpAnyH_take (i := 10) (oi := ⟨some 44, _, _, _, _, _⟩) (v := ?_) rfl (by kernel_rfl) (by kernel_rfl) (by kernel_rfl) (fun _ _ _ h => h) (Or.inl ⟨by kernel_rfl, ?_⟩) (by assumption) ?_
        rotate_left
        · (intro w hSw; (try dsimp only at hSw); go_simp; try with_reducible rfl)
        (try simp only [Act.put, List.setIfInBounds_toArray, List.set_cons_zero, List.set_cons_succ])
        refine wpAnyH_take (i := 11) (oi := ⟨some 45, _, _, _, _, _⟩) (v := ?_) rfl (by kernel_rfl) (by kernel_rfl) (by kernel_rfl) (fun _ _ _ h => h) (Or.inl ⟨by kernel_rfl, ?_⟩) (by assumption) ?_
        rotate_left
        · (intro w hSw; (try dsimp only at hSw); go_simp; try with_reducible rfl)
        (try simp only [Act.put, List.setIfInBounds_toArray, List.set_cons_zero, List.set_cons_succ])
        refine wpAnyH_take (i := 12) (oi := ⟨some 46, _, _, _, _, _⟩) (v := ?_) rfl (by kernel_rfl) (by kernel_rfl) (by kernel_rfl) (fun _ _ _ h => h) (Or.inl ⟨by kernel_rfl, ?_⟩) (by assumption) ?_
        rotate_left
        · (intro w hSw; (try dsimp only at hSw); go_simp; try with_reducible rfl)
        (try simp only [Act.put, List.setIfInBounds_toArray, List.set_cons_zero, List.set_cons_succ])
        refine wpAnyH_take (i := 13) (oi := ⟨some 47, _, _, _, _, _⟩) (v := ?_) rfl (by kernel_rfl) (by kernel_rfl) (by kernel_rfl) (fun _ _ _ h => h) (Or.inl ⟨by kernel_rfl, ?_⟩) (by assumption) ?_
        rotate_left
        · (intro w hSw; (try dsimp only at hSw); go_simp; try with_reducible rfl)
        (try simp only [Act.put, List.setIfInBounds_toArray, List.set_cons_zero, List.set_cons_succ])
        refine wpAnyH_take (i := 14) (oi := ⟨some 48, _, _, _, _, _⟩) (v := ?_) rfl (by kernel_rfl) (by kernel_rfl) (by kernel_rfl) (fun _ _ _ h => h) (Or.inl ⟨by kernel_rfl, ?_⟩) (by assumption) ?_
        rotate_left
        · (intro w hSw; (try dsimp only at hSw); go_simp; try with_reducible rfl)
        (try simp only [Act.put, List.setIfInBounds_toArray, List.set_cons_zero, List.set_cons_succ])
        refine wpAnyH_take (i := 15) (oi := ⟨some 49, _, _, _, _, _⟩) (v := ?_) rfl (by kernel_rfl) (by kernel_rfl) (by kernel_rfl) (fun _ _ _ h => h) (Or.inl ⟨by kernel_rfl, ?_⟩) (by assumption) ?_
        rotate_left
        · (intro w hSw; (try dsimp only at hSw); go_simp; try with_reducible rfl)
        (try simp only [Act.put, List.setIfInBounds_toArray, List.set_cons_zero, List.set_cons_succ])
        refine wpAnyH_take (i := 16) (oi := ⟨some 50, _, _, _, _, _⟩) (v := ?_) rfl (by kernel_rfl) (by kernel_rfl) (by kernel_rfl) (fun _ _ _ h => h) (Or.inl ⟨by kernel_rfl, ?_⟩) (by assumption) ?_
        rotate_left
        · (intro w hSw; (try dsimp only at hSw); go_simp; try with_reducible rfl)
        (try simp only [Act.put, List.setIfInBounds_toArray, List.set_cons_zero, List.set_cons_succ])
        refine wpAnyH_take (i := 17) (oi := ⟨some 51, _, _, _, _, _⟩) (v := ?_) rfl (by kernel_rfl) (by kernel_rfl) (by kernel_rfl) (fun _ _ _ h => h) (Or.inl ⟨by kernel_rfl, ?_⟩) (by assumption) ?_
        rotate_left
        · (intro w hSw; (try dsimp only at hSw); go_simp; try with_reducible rfl)
        (try simp only [Act.put, List.setIfInBounds_toArray, List.set_cons_zero, List.set_cons_succ])
        refine wpAnyH_take (i := 18) (oi := ⟨some 52, _, _, _, _, _⟩) (v := ?_) rfl (by kernel_rfl) (by kernel_rfl) (by kernel_rfl) (fun _ _ _ h => h) (Or.inl ⟨by kernel_rfl, ?_⟩) (by assumption) ?_
        rotate_left
        · (intro w hSw; (try dsimp only at hSw); go_simp; try with_reducible rfl)
        (try simp only [Act.put, List.setIfInBounds_toArray, List.set_cons_zero, List.set_cons_succ])
        refine wpAnyH_take (i := 19) (oi := ⟨some 53, _, _, _, _, _⟩) (v := ?_) rfl (by kernel_rfl) (by kernel_rfl) (by kernel_rfl) (fun _ _ _ h => h) (Or.inl ⟨by kernel_rfl, ?_⟩) (by assumption) ?_
        rotate_left
        · (intro w hSw; (try dsimp only at hSw); go_simp; try with_reducible rfl)
        (try simp only [Act.put, List.setIfInBounds_toArray, List.set_cons_zero, List.set_cons_succ])
        refine wpAnyH_ready (rs := [20]) (by kernel_rfl) (by simp) ?_
        refine AllReadyH.cons (o := ⟨some 54, _, _, _, _, _⟩) rfl (fun K hK => ?_) AllReadyH.nil
        rw [if_pos (by kernel_rfl)]
        go_simp
        go_at_call 8; refine (HRQ.out _ hkd).mono ?_; rintro e wa ⟨rfl, hba⟩
        have hka := hkd.trans (hba.mono hkd.size)
        refine hK.out _ _ ?_ (fun hHeld => ?_)
        · exact HSY.out _ hka
        clear hK K
        (try simp only [Act.put, List.setIfInBounds_toArray, List.set_cons_zero, List.set_cons_succ])
        refine wpAnyH_take (i := 21) (oi := ⟨some 55, _, _, _, _, _⟩) (v := ?_) rfl (by kernel_rfl) (by kernel_rfl) (by kernel_rfl) (fun _ _ _ h => h) (Or.inl ⟨by kernel_rfl, ?_⟩) (by assumption) ?_
        rotate_left
        · (intro w hSw; (try dsimp only at hSw); go_simp; try with_reducible rfl)
        (try simp only [Act.put, List.setIfInBounds_toArray, List.set_cons_zero, List.set_cons_succ])
        refine wpAnyH_take (i := 22) (oi := ⟨some 56, _, _, _, _, _⟩) (v := ?_) rfl (by kernel_rfl) (by kernel_rfl) (by kernel_rfl) (fun _ _ _ h => h) (Or.inl ⟨by kernel_rfl, ?_⟩) (by assumption) ?_
        rotate_left
        · (intro w hSw; (try dsimp only at hSw); go_simp; try with_reducible rfl)
        (try simp only [Act.put, List.setIfInBounds_toArray, List.set_cons_zero, List.set_cons_succ])
        refine wpAnyH_take (i := 23) (oi := ⟨some 57, _, _, _, _, _⟩) (v := ?_) rfl (by kernel_rfl) (by kernel_rfl) (by kernel_rfl) (fun _ _ _ h => h) (Or.inl ⟨by kernel_rfl, ?_⟩) (by assumption) ?_
        rotate_left
        · (intro w hSw; (try dsimp only at hSw); go_simp; try with_reducible rfl)
        (try simp only [Act.put, List.setIfInBounds_toArray, List.set_cons_zero, List.set_cons_succ])
        refine wpAnyH_take (i := 25) (oi := ⟨some 59, _, _, _, _, _⟩) (v := ?_) rfl (by kernel_rfl) (by kernel_rfl) (by kernel_rfl) (fun _ _ _ h => h) (Or.inl ⟨by kernel_rfl, ?_⟩) (by assumption) ?_
        rotate_left
        · (intro w hSw; (try dsimp only at hSw); go_simp; try with_reducible rfl)
        (try simp only [Act.put, List.setIfInBounds_toArray, List.set_cons_zero, List.set_cons_succ])
        refine wpAnyH_take (i := 27) (oi := ⟨some 61, _, _, _, _, _⟩) (v := ?_) rfl (by kernel_rfl) (by kernel_rfl) (by kernel_rfl) (fun _ _ _ h => h) (Or.inl ⟨by kernel_rfl, ?_⟩) (by assumption) ?_
        rotate_left
        · (intro w hSw; (try dsimp only at hSw); go_simp; try with_reducible rfl)
        (try simp only [Act.put, List.setIfInBounds_toArray, List.set_cons_zero, List.set_cons_succ])
        refine wpAnyH_take (i := 28) (oi := ⟨some 62, _, _, _, _, _⟩) (v := ?_) rfl (by kernel_rfl) (by kernel_rfl) (by kernel_rfl) (fun _ _ _ h => h) (Or.inl ⟨by kernel_rfl, ?_⟩) (by assumption) ?_
        rotate_left
        · (intro w hSw; (try dsimp only at hSw); go_simp; try with_reducible rfl)
        (try simp only [Act.put, List.setIfInBounds_toArray, List.set_cons_zero, List.set_cons_succ])
        refine wpAnyH_ready (rs := [24]) (by kernel_rfl) (by simp) ?_
        refine AllReadyH.cons (o := ⟨some 58, _, _, _, _, _⟩) rfl (fun K hK => ?_) AllReadyH.nil
        rw [if_pos (by kernel_rfl)]
        go_simp
        go_at_call 20; refine (HFQ.out _ hka).mono ?_; rintro e wb ⟨rfl, hbb⟩
        have hkb := hka.trans (hbb.mono hka.size)
        refine hK.out _ _ ?_ (fun hHeld => ?_)
        · exact HSY.out _ hkb
        clear hK K
        (try simp only [Act.put, List.setIfInBounds_toArray, List.set_cons_zero, List.set_cons_succ])
        refine wpAnyH_ready (rs := [26]) (by kernel_rfl) (by simp) ?_
        refine AllReadyH.cons (o := ⟨some 60, _, _, _, _, _⟩) rfl (fun K hK => ?_) AllReadyH.nil
        rw [if_pos (by kernel_rfl)]
        go_simp
        go_at_call 20; refine (HFP.out _ hkb).mono ?_; rintro e wc ⟨rfl, hbc⟩
        have hkc := hkb.trans (hbc.mono hkb.size)
        refine hK.out _ _ ?_ (fun hHeld => ?_)
        · exact HSY.out _ hkc
        clear hK K
        (try simp only [Act.put, List.setIfInBounds_toArray, List.set_cons_zero, List.set_cons_succ])
        refine wpAnyH_take (i := 29) (oi := ⟨some 63, _, _, _, _, _⟩) (v := ?_) rfl (by kernel_rfl) (by kernel_rfl) (by kernel_rfl) (fun _ _ _ h => h) (Or.inl ⟨by kernel_rfl, ?_⟩) (by assumption) ?_
        rotate_left
        · (intro w hSw; (try dsimp only at hSw); go_simp; try with_reducible rfl)
        (try simp only [Act.put, List.setIfInBounds_toArray, List.set_cons_zero, List.set_cons_succ])
        refine wpAnyH_take (i := 30) (oi := ⟨some 64, _, _, _, _, _⟩) (v := ?_) rfl (by kernel_rfl) (by kernel_rfl) (by kernel_rfl) (fun _ _ _ h => h) (Or.inl ⟨by kernel_rfl, ?_⟩) (by assumption) ?_
        rotate_left
        · (intro w hSw; (try dsimp only at hSw); go_simp; try with_reducible rfl)
        (try simp only [Act.put, List.setIfInBounds_toArray, List.set_cons_zero, List.set_cons_succ])
        refine wpAnyH_take (i := 31) (oi := ⟨some 65, _, _, _, _, _⟩) (v := ?_) rfl (by kernel_rfl) (by kernel_rfl) (by kernel_rfl) (fun _ _ _ h => h) (Or.inl ⟨by kernel_rfl, ?_⟩) (by assumption) ?_
        rotate_left
        · (intro w hSw; (try dsimp only at hSw); go_simp; try with_reducible rfl)
        (try simp only [Act.put, List.setIfInBounds_toArray, List.set_cons_zero, List.set_cons_succ])
        refine wpAnyH_take (i := 32) (oi := ⟨some 66, _, _, _, _, _⟩) (v := ?_) rfl (by kernel_rfl) (by kernel_rfl) (by kernel_rfl) (fun _ _ _ h => h) (Or.inl ⟨by kernel_rfl, ?_⟩) (by assumption) ?_
        rotate_left
        · (intro w hSw; (try dsimp only at hSw); go_simp; try with_reducible rfl)
        (try simp only [Act.put, List.setIfInBounds_toArray, List.set_cons_zero, List.set_cons_succ])
        refine wpAnyH_ready (rs := [33]) (by kernel_rfl) (by simp) ?_
        refine AllReadyH.cons (o := ⟨some 67, _, _, _, _, _⟩) rfl (fun K hK => ?_) AllReadyH.nil
        rw [if_pos (by kernel_rfl)]
        go_simp
        go_at_call 7; refine (HAW.out _).mono ?_; rintro e wd ⟨rfl, hbd⟩
        have hkd2 := hkc.trans (hbd.mono hkc.size)
        refine hK.out _ _ ?_ (fun hHeld => ?_)
        · exact HSY.out _ hkd2
        clear hK K
        (try simp only [Act.put, List.setIfInBounds_toArray, List.set_cons_zero, List.set_cons_succ])
        refine wpAnyH_take (i := 34) (oi := ⟨some 68, _, _, _, _, _⟩) (v := ?_) rfl (by kernel_rfl) (by kernel_rfl) (by kernel_rfl) (fun _ _ _ h => h) (Or.inl ⟨by kernel_rfl, ?_⟩) (by assumption) ?_
        rotate_left
        · (intro w hSw; (try dsimp only at hSw); go_simp; try with_reducible rfl)
        (try simp only [Act.put, List.setIfInBounds_toArray, List.set_cons_zero, List.set_cons_succ])
        refine wpAnyH_take (i := 35) (oi := ⟨some 4, _, _, _, _, _⟩) (v := ?_) rfl (by kernel_rfl) (by kernel_rfl) (by kernel_rfl) (fun _ _ _ h => h) (Or.inl ⟨by kernel_rfl, ?_⟩) (by assumption) ?_
        rotate_left
        · (intro w hSw; (try dsimp only at hSw); go_simp; try with_reducible rfl)
        (try simp only [Act.put, List.setIfInBounds_toArray, List.set_cons_zero, List.set_cons_succ])
        refine wpAnyH_done (by kernel_rfl) ?_ _
        have HBE := Lib.hid (HB2.out.trans ((HK6.out.trans ((HX9.out.trans (hkd2.mono HX9.out.size)).mono HK6.out.size)).mono HB2.out.size))
        clear hHeld hkd2 hkc hkb hka hkd hba hbb hbc hbd
        go_wp2_with fail
        go_ret
        exact ⟨rfl, HBE.out⟩
      · have hne : (E != 0) = true := by simp; exact hE
        have HXZ : Hid (x = zeroPl) := Lib.hid (HCA.out.resolve_right fun h => hE h.1).2
        clear hE
        have HSM := Lib.hid (refSamePlace_any (.slice A n c) (.slice none 0 0) x zeroPl w6 (HPX6.out w6 HX0.out) (PcsIn.nil _ _))
        rw [show decide (x = zeroPl) = true from decide_eq_true HXZ.out, HXE.out] at HSM
        unfold plA zeroPl at HSM
        go_wp2_with (refine wpList_store_row rfl _ _ _ rfl X #[.int .i64 xu, .int .i64 xs, .int .i64 0, .slice A n c] rfl rfl 38 _ HXB.out (Try.sizePl _ _ _ _) rfl (one4 _ _ _ _ _ _) ?_)
        clear hw5 hw6 hX
        refine HSM.out.mono ?_
        rintro e w10 ⟨rfl, hb10⟩
        have HX10 := Lib.hid hb10
        clear hb10 r0 r1 r2 q0 q1 x0 x1 x2 x3
        go_wp2_with fail
        refine (HAW.out _).mono ?_
        rintro e wz ⟨rfl, hbz⟩
        have HBE := Lib.hid (HB2.out.trans ((HK6.out.trans ((HX10.out.trans (hbz.mono HX10.out.size)).mono HK6.out.size)).mono HB2.out.size))
        clear hbz
        go_wp2_with fail
        go_ret
        exact ⟨rfl, HBE.out⟩
    · refine ((HRI.out _ HK3.out).2 hr).mono ?_
      rintro e w4 ⟨rfl, hb4⟩
      have HK4 := Lib.hid (HK3.out.trans (hb4.mono HK3.out.size))
      clear hb4 hr r0 r1 r2 q0 q1
      go_wp2_with fail
      refine (HAW.out _).mono ?_
      rintro e wz ⟨rfl, hbz⟩
      have HBE := Lib.hid (HB2.out.trans ((HK4.out.trans (hbz.mono HK4.out.size)).mono HB2.out.size))
      clear hbz
      go_wp2_with fail
      go_ret
      exact ⟨rfl, HBE.out⟩
  · have HLN := Lib.hid (fun W hk => (HLI.out W hk).2 hlit)
    clear HLI hlit
    go_enter Try.func5, Try.ntmps5
    go_wp2_with fail
    refine (HLN.out _ HK1.out).mono ?_
    rintro e w3 ⟨rfl, hb3⟩
    have HK3 := Lib.hid hb3
    clear hb3 r0 r1 r2 q0 q1 hw1 hP hw2 hQ
    go_wp2_with fail
    refine (HAW.out _).mono ?_
    rintro e w5 ⟨rfl, hb5⟩
    have HBE := Lib.hid (HB2.out.trans ((HK3.out.trans (hb5.mono HK3.out.size)).mono HB2.out.size))
    clear hb5
    go_wp2_with fail
    go_ret
    exact ⟨rfl, HBE.out⟩
end Go.Proofs.Ytkgkanmccaodfaa

/-
  An argument that is a plan, opened: its frame, its cores, its places, each with its pieces.
  Conditions: the reading itself.
-/
set_option linter.unusedVariables false
namespace Go.Proofs.Ytkgkanmccaodfaa
open Go.ChangeShapes Go.WideShapes Go.RowKit Go.Deep

theorem Try.ownKnob : ownKnob Try.prog.godebug = none := by kernel_rfl
theorem Try.laidOut : laidOutB Try.prog = true := by kernel_rfl
theorem Try.cellsInt : Try.prog.cellsOf 3 = 1 := by kernel_rfl
theorem Try.cellsU64 : Try.prog.cellsOf 48 = 1 := by kernel_rfl
theorem Try.cellsPcs : Try.prog.cellsOf 36 = 1 := by kernel_rfl
theorem Try.cellsPc : Try.prog.cellsOf 50 = 2 := by kernel_rfl
theorem Try.cellsPl : Try.prog.cellsOf 38 = 4 := by kernel_rfl
theorem Try.cellsPn : Try.prog.cellsOf 25 = 3 := by kernel_rfl

theorem cell_lt {w : World} {b o : Nat} {v : Value} (h : w.cell? ⟨b, o, none⟩ = some v) : b < w.heap.size := by
  rcases Nat.lt_or_ge b w.heap.size with h1 | h1
  · exact h1
  · simp [World.cell?, Array.getElem?_eq_none h1] at h
theorem bounds_i64 {n : Int} (h : (Lit.int .i64 n).wf = true) : -9223372036854775808 ≤ n ∧ n ≤ 9223372036854775807 := by
  have e1 : IntKind.i64.min = -9223372036854775808 := by decide +kernel
  have e2 : IntKind.i64.max = 9223372036854775807 := by decide +kernel
  simp [Lit.wf] at h
  omega
theorem nat_of_u64 {n : Int} (h : (Lit.int .u64 n).wf = true) : ∃ m : Nat, n = (m : Int) ∧ m < 18446744073709551616 := by
  have e1 : IntKind.u64.min = 0 := by decide +kernel
  have e2 : IntKind.u64.max = 18446744073709551615 := by decide +kernel
  simp [Lit.wf] at h
  exact ⟨n.toNat, by omega, by omega⟩
theorem nat_of_u32 {n : Int} (h : (Lit.int .u32 n).wf = true) : ∃ m : Nat, n = (m : Int) ∧ m < 4294967296 := by
  have e1 : IntKind.u32.min = 0 := by decide +kernel
  have e2 : IntKind.u32.max = 4294967295 := by decide +kernel
  simp [Lit.wf] at h
  exact ⟨n.toNat, by omega, by omega⟩
def numOf : Value → Int
  | .int _ q => q
  | _ => 0
theorem array3 {α : Type} {cs : Array α} (h : cs.size = 3) : ∃ c0 c1 c2, cs = #[c0, c1, c2] := by
  obtain ⟨l⟩ := cs
  match l, h with
  | [c0, c1, c2], _ => exact ⟨c0, c1, c2, rfl⟩
theorem list3 {α : Type} {xs : List α} (h : xs.length = 3) : ∃ c0 c1 c2, xs = [c0, c1, c2] := by
  match xs, h with
  | [c0, c1, c2], _ => exact ⟨c0, c1, c2, rfl⟩
theorem list4 {α : Type} {xs : List α} (h : xs.length = 4) : ∃ c0 c1 c2 c3, xs = [c0, c1, c2, c3] := by
  match xs, h with
  | [c0, c1, c2, c3], _ => exact ⟨c0, c1, c2, c3, rfl⟩

/-- A struct of three one-cell fields, by value, opened. -/
theorem open_three {H : Type} {enc : TypeId × Value → H} {P : Program} {w : World} {base : Nat} {spare : Nat → Bool} {held : Bool} {r : Reach} {b0 : Nat} {t : TypeId} {f0 f1 f2 : Field} {v : Value} {d : DataW H} {p : List MemPlace} (hs : P.underlying t = some (.struct #[f0, f1, f2]))
    (hone : Go.Deep.oneCellFields P #[f0, f1, f2] = true) (hC : P.cellsOf t = 3) (hv : Value.okWide P w r b0 t v) (h : DataW.Trod enc P w base spare held t v d p) :
    ∃ (v0 v1 v2 : Value) (y0 y1 y2 : DataW H × List MemPlace) (n : Nat), v = .agg #[v0, v1, v2] ∧
      DataW.trod enc P w base spare held n f0.type [v0] = some y0 ∧ DataW.trod enc P w base spare held n f1.type [v1] = some y1 ∧ DataW.trod enc P w base spare held n f2.type [v2] = some y2 := by
  obtain ⟨cs, rfl, hsz⟩ := okWide_struct hs hv
  obtain ⟨c0, c1, c2, rfl⟩ := array3 (hsz.trans hC)
  obtain ⟨fuel, hf⟩ := h
  obtain ⟨xs, n, _, _, _, hlen, hfld⟩ := DataW.trod_struct hs hf
  obtain ⟨y0, y1, y2, rfl⟩ := list3 hlen
  have g0 := hfld 0 f0 rfl
  obtain ⟨o0, k0⟩ := Go.Deep.hone_of hone 0 f0 rfl
  have g1 := hfld 1 f1 rfl
  obtain ⟨o1, k1⟩ := Go.Deep.hone_of hone 1 f1 rfl
  have g2 := hfld 2 f2 rfl
  obtain ⟨o2, k2⟩ := Go.Deep.hone_of hone 2 f2 rfl
  exact ⟨c0, c1, c2, y0, y1, y2, n, rfl, by simpa [Value.cells, o0, k0] using g0, by simpa [Value.cells, o1, k1] using g1, by simpa [Value.cells, o2, k2] using g2⟩

section
variable {H : Type} {enc : TypeId × Value → H} {W : World} {sp : Nat → Bool} {held : Bool}
theorem pcs_open {fuel : Nat} {sv : Value} {x : DataW H × List MemPlace} (h : DataW.trod enc Try.prog W 0 sp held fuel 36 [sv] = some x) : ∃ ps, PcsAt W sv ps ∧ ∀ y ∈ ps, PcOk y := by
  rcases open_slice_pairs Try.underlying36 Try.underlying50 Try.cellsPc rfl rfl Try.cellsInt Try.cellsU64 h with ⟨hcs, _⟩ | ⟨a, len, cap, m, n, V0, V1, D0, D1, P0, P1, hcs, _, hl, hm, hmm, _, hcell⟩
  · simp only [List.cons.injEq, and_true] at hcs
    subst hcs
    exact ⟨[], PcsIn.nil _ W, by intro s hs; cases hs⟩
  · simp only [List.cons.injEq, and_true] at hcs
    subst hcs
    have hlm : len ≤ m := by rw [hmm]; split <;> omega
    have hint : ∀ i, i < len → (V0 i = .int .i64 (numOf (V0 i)) ∧ Int64 (numOf (V0 i))) ∧ (V1 i = .int .u64 ((numOf (V1 i)).toNat : Nat) ∧ (numOf (V1 i)).toNat < 18446744073709551616) := by
      intro i hi
      obtain ⟨_, _, g0, g1⟩ := hcell i (by omega)
      obtain ⟨n0, e0, _, w0⟩ := DataW.trod_int Try.underlying3 g0
      obtain ⟨n1, e1, _, w1⟩ := DataW.trod_int Try.underlying48 g1
      obtain ⟨k1, rfl, hk1⟩ := nat_of_u64 w1
      simp only [List.cons.injEq, and_true] at e0 e1
      rw [e0, e1]
      exact ⟨⟨rfl, bounds_i64 w0⟩, by simp [numOf], by simpa [numOf] using hk1⟩
    have hn : ((List.range len).map fun i => (⟨numOf (V0 i), (numOf (V1 i)).toNat⟩ : Pc)).length = len := by simp
    refine ⟨(List.range len).map fun i => ⟨numOf (V0 i), (numOf (V1 i)).toNat⟩, ⟨some a, cap, by rw [hn], by rw [hn]; exact hl, by unfold maxLen at hm; omega, fun h0 => ?_⟩, fun s hs => ?_⟩
    · rw [hn] at h0
      obtain ⟨b, off, spot⟩ := a
      have hspot : spot = none := by simpa [Addr.add] using World.cell?_spot (hcell 0 (by omega)).1
      subst hspot
      refine ⟨b, off, rfl, cell_lt (by have := (hcell 0 (by omega)).1; simpa [Addr.add] using this), trivial, fun j p hp => ?_⟩
      have hj : j < len := by
        have := (List.getElem?_eq_some_iff.1 hp).1
        omega
      have hp' : p = ⟨numOf (V0 j), (numOf (V1 j)).toNat⟩ := by
        rw [List.getElem?_map, List.getElem?_range hj] at hp
        simpa using hp.symm
      subst hp'
      obtain ⟨q0, q1, _⟩ := hcell j (by omega)
      rw [add_plain] at q0 q1
      exact ⟨by rw [q0, ← (hint j hj).1.1], by rw [Nat.add_assoc, q1, ← (hint j hj).2.1]⟩
    · obtain ⟨i, hi, rfl⟩ := List.mem_map.1 hs
      have hi' : i < len := by simpa using hi
      exact ⟨(hint i hi').1.2, (hint i hi').2.2⟩
theorem place_of_cells {fuel : Nat} {cs : List Value} {x : DataW H × List MemPlace} (h : DataW.trod enc Try.prog W 0 sp held fuel 38 cs = some x) :
    ∃ p : Value × Pl, PlOk p.2 ∧ PcsAt W p.1 p.2.ps ∧ cs = [.int .i64 p.2.u, .int .i64 p.2.s, .int .i64 p.2.c, p.1] := by
  obtain ⟨xs, n, _, _, hlen, hxs, hf⟩ := DataW.trod_struct Try.underlying38 h
  rw [Try.cellsPl] at hlen
  obtain ⟨v0, v1, v2, v3, rfl⟩ := list4 hlen
  obtain ⟨x0, x1, x2, x3, rfl⟩ := list4 (show xs.length = 4 from hxs)
  have g0 : DataW.trod enc Try.prog W 0 sp held n 3 (([v0, v1, v2, v3].drop 0).take (Try.prog.cellsOf 3)) = some x0 := hf 0 _ rfl
  have g1 : DataW.trod enc Try.prog W 0 sp held n 3 (([v0, v1, v2, v3].drop 1).take (Try.prog.cellsOf 3)) = some x1 := hf 1 _ rfl
  have g2 : DataW.trod enc Try.prog W 0 sp held n 3 (([v0, v1, v2, v3].drop 2).take (Try.prog.cellsOf 3)) = some x2 := hf 2 _ rfl
  have g3 : DataW.trod enc Try.prog W 0 sp held n 36 (([v0, v1, v2, v3].drop 3).take (Try.prog.cellsOf 36)) = some x3 := hf 3 _ rfl
  rw [Try.cellsInt] at g0 g1 g2
  rw [Try.cellsPcs] at g3
  simp only [List.drop_succ_cons, List.drop_zero, List.take_succ_cons, List.take_zero] at g0 g1 g2 g3
  obtain ⟨n0, e0, _, w0⟩ := DataW.trod_int Try.underlying3 g0
  obtain ⟨n1, e1, _, w1⟩ := DataW.trod_int Try.underlying3 g1
  obtain ⟨n2, e2, _, w2⟩ := DataW.trod_int Try.underlying3 g2
  obtain ⟨ps, hx, hxo⟩ := pcs_open g3
  simp only [List.cons.injEq, and_true] at e0 e1 e2
  exact ⟨(v3, ⟨n0, n1, n2, ps⟩), ⟨bounds_i64 w0, bounds_i64 w1, bounds_i64 w2, hxo⟩, hx, by rw [e0, e1, e2]⟩
instance : Inhabited (Value × Pl) := ⟨(undef, default)⟩
theorem pls_open {fuel : Nat} {sv : Value} {x : DataW H × List MemPlace} (h : DataW.trod enc Try.prog W 0 sp held fuel 23 [sv] = some x) :
    ∃ l : List Pl, PlsAt W sv l ∧ ∀ x ∈ l, PlOk x := by
  rcases open_slice Try.underlying23 h with ⟨h1, _⟩ | ⟨a, len, cap, m, n, D, Pm, h1, _, hl, hm, hmm, _, hi⟩
  · simp only [List.cons.injEq, and_true] at h1
    subst h1
    exact ⟨[], PlsIn.nil _ W, fun a ha => by cases ha⟩
  · simp only [List.cons.injEq, and_true] at h1
    subst h1
    have hlm : len ≤ m := by rw [hmm]; split <;> omega
    have key : ∀ i, i < len → ∃ x : Value × Pl, (PlOk x.2 ∧ PcsAt W x.1 x.2.ps) ∧ W.cell? (a.add (i * 4 + 0)) = some (.int .i64 x.2.u) ∧ W.cell? (a.add (i * 4 + 1)) = some (.int .i64 x.2.s) ∧ W.cell? (a.add (i * 4 + 2)) = some (.int .i64 x.2.c) ∧ W.cell? (a.add (i * 4 + 3)) = some x.1 := by
      intro i hlt
      obtain ⟨cs', hc, ht⟩ := hi i (by omega)
      rw [Try.cellsPl] at hc
      obtain ⟨x, hok, hx, rfl⟩ := place_of_cells ht
      obtain ⟨_, _, hat⟩ := World.cells?_some hc
      refine ⟨x, ⟨hok, hx⟩, ?_, ?_, ?_, ?_⟩
      · rw [← Go.Deep.add_add, hat 0 (by decide)]; rfl
      · rw [← Go.Deep.add_add, hat 1 (by decide)]; rfl
      · rw [← Go.Deep.add_add, hat 2 (by decide)]; rfl
      · rw [← Go.Deep.add_add, hat 3 (by decide)]; rfl
    obtain ⟨f, hf⟩ := choose_lt key
    have hn : ((List.range len).map f).length = len := by simp
    refine ⟨plsOf ((List.range len).map f), ⟨(List.range len).map f, rfl, some a, cap, by rw [hn], by rw [hn]; exact hl, by unfold maxLen at hm; omega, fun h0 => ?_, ?_⟩, ?_⟩
    · rw [hn] at h0
      obtain ⟨b, off, spot⟩ := a
      have hspot : spot = none := by simpa [Addr.add] using World.cell?_spot (hf 0 (by omega)).2.1
      subst hspot
      refine ⟨b, off, rfl, cell_lt (by have := (hf 0 (by omega)).2.1; simpa [Addr.add] using this), trivial, fun j p hp => ?_⟩
      have hj : j < len := by
        have := (List.getElem?_eq_some_iff.1 hp).1
        omega
      have hp' : p = f j := by
        rw [List.getElem?_map, List.getElem?_range hj] at hp
        simpa using hp.symm
      subst hp'
      obtain ⟨_, c0, c1, c2, c3⟩ := hf j hj
      rw [add_plain] at c0 c1 c2 c3
      simp only [← Nat.add_assoc, Nat.add_zero] at c0 c1 c2 c3
      exact ⟨c0, c1, c2, c3⟩
    · intro x hx
      obtain ⟨i, hi', rfl⟩ := List.mem_map.1 hx
      exact (hf i (List.mem_range.1 hi')).1.2
    · intro x hx
      obtain ⟨p, hp, rfl⟩ := List.mem_map.1 hx
      obtain ⟨i, hi', rfl⟩ := List.mem_map.1 hp
      exact (hf i (List.mem_range.1 hi')).1.1
set_option maxRecDepth 100000 in
theorem plan_open {r : Reach} {b0 : Nat} {v : Value} {d : DataW H} {p : List MemPlace}
    (hv : Value.okWide Try.prog W r b0 25 v) (h : DataW.Trod enc Try.prog W 0 sp held 25 v d p) : ∃ (f : Int) (m : Nat) (u : Value) (l : List Pl), v = planA f m u ∧ PlsAt W u l ∧ (∀ x ∈ l, PlOk x) ∧ m < 4294967296 ∧ Int64 f := by
  obtain ⟨v0, v1, v2, y0, y1, y2, n, rfl, g0, g1, g2⟩ := open_three Try.underlying25 (by kernel_rfl) Try.cellsPn hv h
  obtain ⟨n0, e0, _, w0⟩ := DataW.trod_int Try.underlying3 g0
  obtain ⟨n1, e1, _, w1⟩ := DataW.trod_int Try.underlying22 g1
  obtain ⟨k1, rfl, hk1⟩ := nat_of_u32 w1
  obtain ⟨l, hl, ho⟩ := pls_open g2
  simp only [List.cons.injEq, and_true] at e0 e1
  subst e0 e1
  exact ⟨n0, k1, v2, l, rfl, hl, ho, hk1, bounds_i64 w0⟩
end
end Go.Proofs.Ytkgkanmccaodfaa

/-
  An argument that is a slice of wants, opened: the pairs of ints that it reads as.
  Conditions: the reading itself.
-/
set_option linter.unusedVariables false
namespace Go.Proofs.Ytkgkanmccaodfaa
open Go.ChangeShapes Go.WideShapes Go.RowKit Go.Deep

theorem Try.cellsWant : Try.prog.cellsOf 35 = 2 := by kernel_rfl
theorem wants_open {H : Type} {enc : TypeId × Value → H} {W : World} {sp : Nat → Bool} {held : Bool} {fuel : Nat} {sv : Value} {x : DataW H × List MemPlace}
    (h : DataW.trod enc Try.prog W 0 sp held fuel 68 [sv] = some x) : ∃ ps, ArgAt W sv ps ∧ IntsS ps := by
  rcases open_slice_pairs Try.underlying68 Try.underlying35 Try.cellsWant rfl rfl Try.cellsInt Try.cellsInt h with ⟨hcs, _⟩ | ⟨a, len, cap, m, n, V0, V1, D0, D1, P0, P1, hcs, _, hl, hm, hmm, _, hcell⟩
  · simp only [List.cons.injEq, and_true] at hcs
    subst hcs
    exact ⟨[], ⟨none, 0, rfl, Nat.le_refl _, by simp, fun _ => rfl, fun h => absurd h (by simp)⟩, by intro s hs; cases hs⟩
  · simp only [List.cons.injEq, and_true] at hcs
    subst hcs
    have hlm : len ≤ m := by rw [hmm]; split <;> omega
    have hint : ∀ i, i < len → (V0 i = .int .i64 (numOf (V0 i)) ∧ -9223372036854775808 ≤ numOf (V0 i) ∧ numOf (V0 i) ≤ 9223372036854775807) ∧ (V1 i = .int .i64 (numOf (V1 i)) ∧ -9223372036854775808 ≤ numOf (V1 i) ∧ numOf (V1 i) ≤ 9223372036854775807) := by
      intro i hi
      obtain ⟨_, _, g0, g1⟩ := hcell i (by omega)
      obtain ⟨n0, e0, _, w0⟩ := DataW.trod_int Try.underlying3 g0
      obtain ⟨n1, e1, _, w1⟩ := DataW.trod_int Try.underlying3 g1
      simp only [List.cons.injEq, and_true] at e0 e1
      rw [e0, e1]
      exact ⟨⟨rfl, bounds_i64 w0⟩, rfl, bounds_i64 w1⟩
    have hn : ((List.range len).map fun i => (numOf (V0 i), numOf (V1 i))).length = len := by simp
    refine ⟨(List.range len).map fun i => (numOf (V0 i), numOf (V1 i)), ⟨some a, cap, by rw [hn], by rw [hn]; exact hl, by unfold maxLen at hm; omega, (fun h => by cases h), fun h0 => ?_⟩, fun s hs => ?_⟩
    · rw [hn] at h0
      obtain ⟨b, off, spot⟩ := a
      have hspot : spot = none := by simpa [Addr.add] using World.cell?_spot (hcell 0 (by omega)).1
      subst hspot
      refine ⟨b, off, rfl, cell_lt (by have := (hcell 0 (by omega)).1; simpa [Addr.add] using this), fun j p hp => ?_⟩
      have hj : j < len := by
        have := (List.getElem?_eq_some_iff.1 hp).1
        omega
      have hp' : p = (numOf (V0 j), numOf (V1 j)) := by
        rw [List.getElem?_map, List.getElem?_range hj] at hp
        simpa using hp.symm
      subst hp'
      obtain ⟨q0, q1, _⟩ := hcell j (by omega)
      rw [add_plain] at q0 q1
      exact ⟨by rw [q0, ← (hint j hj).1.1], by rw [Nat.add_assoc, q1, ← (hint j hj).2.1]⟩
    · obtain ⟨i, hi, rfl⟩ := List.mem_map.1 hs
      have hi' : i < len := by simpa using hi
      exact ⟨(hint i hi').1.2, (hint i hi').2.2⟩
end Go.Proofs.Ytkgkanmccaodfaa

/-
  An argument that is a want, opened.
  Conditions: none.
-/
set_option linter.unusedVariables false
namespace Go.Proofs.Ytkgkanmccaodfaa
open Go.ChangeShapes Go.WideShapes Go.RowKit Go.Deep

theorem Try.cellsWn1 : Try.prog.cellsOf 35 = 2 := by kernel_rfl
theorem array2w {α : Type} {a : Array α} (h : a.size = 2) : ∃ x y, a = #[x, y] := by
  obtain ⟨l⟩ := a
  match l, h with
  | [x, y], _ => exact ⟨x, y, rfl⟩
theorem list2w {α : Type} {l : List α} (h : l.length = 2) : ∃ x y, l = [x, y] := by
  match l, h with
  | [x, y], _ => exact ⟨x, y, rfl⟩
/-- A struct of two one-cell fields, by value, opened. -/
theorem open_two {H : Type} {enc : TypeId × Value → H} {P : Program} {w : World} {base : Nat} {spare : Nat → Bool} {held : Bool} {r : Reach} {b0 : Nat} {t : TypeId} {f0 f1 : Field} {v : Value} {d : DataW H} {p : List MemPlace} (hs : P.underlying t = some (.struct #[f0, f1]))
    (hone : Go.Deep.oneCellFields P #[f0, f1] = true) (hC : P.cellsOf t = 2) (hv : Value.okWide P w r b0 t v) (h : DataW.Trod enc P w base spare held t v d p) :
    ∃ (v0 v1 : Value) (y0 y1 : DataW H × List MemPlace) (n : Nat), v = .agg #[v0, v1] ∧
      DataW.trod enc P w base spare held n f0.type [v0] = some y0 ∧ DataW.trod enc P w base spare held n f1.type [v1] = some y1 := by
  obtain ⟨cs, rfl, hsz⟩ := okWide_struct hs hv
  obtain ⟨c0, c1, rfl⟩ := array2w (hsz.trans hC)
  obtain ⟨fuel, hf⟩ := h
  obtain ⟨xs, n, _, _, _, hlen, hfld⟩ := DataW.trod_struct hs hf
  obtain ⟨y0, y1, rfl⟩ := list2w hlen
  have g0 := hfld 0 f0 rfl
  obtain ⟨o0, k0⟩ := Go.Deep.hone_of hone 0 f0 rfl
  have g1 := hfld 1 f1 rfl
  obtain ⟨o1, k1⟩ := Go.Deep.hone_of hone 1 f1 rfl
  exact ⟨c0, c1, y0, y1, n, rfl, by simpa [Value.cells, o0, k0] using g0, by simpa [Value.cells, o1, k1] using g1⟩
section
variable {H : Type} {enc : TypeId × Value → H} {W : World} {sp : Nat → Bool} {held : Bool}
set_option maxRecDepth 100000 in
theorem want_open {r : Reach} {b0 : Nat} {v : Value} {d : DataW H} {p : List MemPlace}
    (hv : Value.okWide Try.prog W r b0 35 v) (h : DataW.Trod enc Try.prog W 0 sp held 35 v d p) : ∃ (u s : Int), v = .agg #[.int .i64 u, .int .i64 s] ∧ Int64 u ∧ Int64 s := by
  obtain ⟨v0, v1, y0, y1, n, rfl, g0, g1⟩ := open_two Try.underlying35 (by kernel_rfl) Try.cellsWn1 hv h
  obtain ⟨n0, e0, _, w0⟩ := DataW.trod_int Try.underlying3 g0
  obtain ⟨n1, e1, _, w1⟩ := DataW.trod_int Try.underlying3 g1
  simp only [List.cons.injEq, and_true] at e0 e1
  subst e0 e1
  exact ⟨n0, n1, rfl, bounds_i64 w0, bounds_i64 w1⟩
end
end Go.Proofs.Ytkgkanmccaodfaa
