/-
  An argument that is a slice of wants, opened: the pairs of ints that it reads as.
  Conditions: the reading itself.
-/
import Derived.Test.YtpfpojehcjmfnaaM01
import Derived.Test.YtpfpojehcjmfnaaM27
import Derived.Test.YtpfpojehcjmfnaaM02
import Derived.OpenShut
import Derived.ChangeSlices
import Derived.ChangeOld
import Derived.ChangeArms
import Derived.Deep.SlicePairs
import Derived.Deep.Slices
import Derived.Deep.Fields
import Derived.Lib.SmallJoins

/-
  An argument that is a slice of wants, of whatever length; its first ones.
  Conditions: none.
-/
set_option linter.unusedVariables false
namespace Go.Proofs.Ytpfpojehcjmfnaa
open Go.RowKit

/-- An argument: it may be of any length. -/
def ArgAt (W : World) (v : Value) (ps : List Sp) : Prop :=
  ∃ A c, v = .slice A ps.length c ∧ ps.length ≤ c ∧ c ≤ 9223372036854775807 ∧ (A = none → c = 0) ∧
    (0 < ps.length → ∃ b off, A = some ⟨b, off, none⟩ ∧ b < W.heap.size ∧ ∀ (j : Nat) (p : Sp), ps[j]? = some p → PairAt W b (off + j * 2) p)
theorem ArgAt.keep {W W' : World} {v : Value} {ps : List Sp} (h : ArgAt W v ps) (hb : Below W.heap.size W W') : ArgAt W' v ps := by
  obtain ⟨A, c, h1, h2, h3, h4, h5⟩ := h
  refine ⟨A, c, h1, h2, h3, h4, fun hn => ?_⟩
  obtain ⟨b, off, e, hlt, hc⟩ := h5 hn
  exact ⟨b, off, e, Nat.lt_of_lt_of_le hlt hb.size, fun j x hx => (hc j x hx).keep hb hlt⟩
/-- Its first ones. -/
theorem ArgAt.cut {W : World} {A : Option Addr} {n c : Nat} {ps : List Sp} (h : ArgAt W (.slice A n c) ps) (N : Nat) (hN : N ≤ 2000000) : SpansAt W (.slice A (min n N) c) (ps.take N) := by
  obtain ⟨A', c', h1, h2, h3, h4, h5⟩ := h
  injection h1 with e1 e2 e3
  subst e1 e2 e3
  have hl : (ps.take N).length = min ps.length N := by rw [List.length_take, Nat.min_comm]
  have hmin : min ps.length N ≤ ps.length := Nat.min_le_left _ _
  have hmin2 : min ps.length N ≤ N := Nat.min_le_right _ _
  refine ⟨A, c, by rw [hl], by omega, by omega, h3, fun hn => ?_⟩
  obtain ⟨b, off, e, hlt, hc⟩ := h5 (by omega)
  refine ⟨b, off, e, hlt, fun j p hj => hc j p ?_⟩
  rw [List.getElem?_take] at hj
  split at hj
  · exact hj
  · cases hj
end Go.Proofs.Ytpfpojehcjmfnaa

/-
  The law of orders: PackOrder.
  Conditions: the slice reads as wants; the numbers are of their kinds.
-/
set_option linter.unusedVariables false
set_option linter.unusedSimpArgs false
namespace Go.Proofs.Ytpfpojehcjmfnaa
open Go.RowKit

theorem tmod_nat (a q : Nat) : (a : Int).tmod (q : Int) = ((a % q : Nat) : Int) := by
  rw [Int.tmod_eq_emod_of_nonneg (by omega)]
  exact (Int.natCast_emod a q).symm

set_option maxRecDepth 100000 in
set_option maxHeartbeats 8000000 in
theorem order_law (f : Int) (m : Nat) (vw : Value) (ps : List Sp) (tn : Nat) (w : World) (hm : m < 4294967296) (hv : ArgAt w vw ps) (hi : IntsS ps) (ht : tn < 256) :
    Calls Try.prog 3 #[.int .i64 f, .int .u32 m, vw, .int .u8 tn] w (RetB (.bool true) w) := by
  obtain ⟨i0, hi0, hz0, hz1, hz2⟩ := info_parts Try.infoSpan
  have HAW := Lib.hid (fun W => awake_any W)
  have harg := hv
  obtain ⟨B, d, rfl, hc1, hc2, hnil, _⟩ := hv
  have hs := harg.cut 80 (by decide)
  have hi' := hi.take 80
  have hlq : (ps.take 80).length = min ps.length 80 := by rw [List.length_take, Nat.min_comm]
  have hmn : min (ps.length : Int) 80 = ((min ps.length 80 : Nat) : Int) := by omega
  have hmle : min ps.length 80 ≤ ps.length := Nat.min_le_left _ _
  have hm60 : min ps.length 80 ≤ 80 := Nat.min_le_right _ _
  generalize ps.take 80 = qs at *
  generalize ps.length = n at *
  generalize min n 80 = q at *
  have hmc : (q : Int) ≤ (d : Int) := by omega
  have hm0 : (0 : Int) ≤ (q : Int) := by omega
  have HLQ := Lib.hid hlq
  have HI := Lib.hid hi'
  have HMM := Lib.hid hm
  have HS : Hid (∀ W, Below w.heap.size w W → SpansAt W (.slice B q d) qs) := Lib.hid (fun W hk => hs.keep hk)
  have HFU := Lib.hid (fun W hk => full_any f m (.slice B q d) qs W (HS.out W hk) hi' hm (by omega))
  have HK0 := Lib.hid (Below.refl w.heap.size w)
  have ht0 : (0 : Int) ≤ (tn : Int) := by omega
  have ht1 : (tn : Int) ≤ 255 := by omega
  clear harg hi hs hi' hlq hm hnil
  go_enter Try.func3, Try.ntmps3
  go_wp2_with fail
  go_loopg [9, 10] q (fun gg s9 s10 wr => ∃ (k : Nat) (I : Int) (ov : Value), k ≤ q ∧ gg = q - k ∧ s9 = ov ∧ s10 = .int .i64 I ∧ Hid (I = (q : Int) - 1 - (k : Int)) ∧ wr.ownsRow w.heap.size 25 2 ov k (spansCells (turnL qs tn k)) ∧ Below w.heap.size w wr)
  case atStart => exact ⟨0, (q : Int) - 1, _, Nat.zero_le _, by omega, rfl, rfl, Lib.hid (by omega), World.ownsRow_nil _ _ _ _, HK0.out⟩
  case round =>
    obtain ⟨k, I, ov, hkq, hgg, hov, rfl, HII, hown, hbw⟩ := hrel
    have hov := hov.symm
    subst hov
    obtain ⟨wo, rfl⟩ : ∃ wo : World, wo = wr := ⟨_, rfl⟩
    have HG := Lib.hid hgg
    have HO := Lib.hid hown
    have HB := Lib.hid hbw
    clear hgg hown hbw
    by_cases hlt : k < q
    · obtain ⟨j, hj⟩ : ∃ j : Nat, I = (j : Int) := ⟨q - 1 - k, by have := HII.out; omega⟩
      subst hj
      have hjq : j = q - 1 - k := by have := HII.out; omega
      have HJ := Lib.hid hjq
      have hj0 : (0 : Int) ≤ (j : Int) := by omega
      have hj1 : (j : Int) ≤ 80 := by omega
      obtain ⟨a, ha⟩ : ∃ a, j + tn = a := ⟨_, rfl⟩
      have hai : (j : Int) + (tn : Int) = (a : Int) := by omega
      have ha1 : (a : Int) ≤ 400 := by omega
      have ha0 : (0 : Int) ≤ (a : Int) := by omega
      obtain ⟨r, hr⟩ : ∃ r, a % q = r := ⟨_, rfl⟩
      have hrq : r < q := by rw [← hr]; exact Nat.mod_lt _ (by omega)
      have hrm : (a : Int).tmod (q : Int) = (r : Int) := by rw [tmod_nat, hr]
      have hr0 : (0 : Int) ≤ (r : Int) := by omega
      have hr1 : (r : Int) < (q : Int) := by omega
      have hr2 : (r : Int) ≤ 80 := by omega
      have hq0 : ((q : Int) != 0) = true := by simp; omega
      have hq1 : ((q : Int) == 0) = false := by simp; omega
      have hq2 : ¬ q = 0 := by omega
      obtain ⟨y, hy⟩ := ex_at (xs := qs) (k := r) (by rw [HLQ.out]; exact hrq)
      have HTL : Hid (turnL qs tn (k + 1) = turnL qs tn k ++ [y]) := Lib.hid (by
        show turnL qs tn k ++ (qs[(qs.length - 1 - k + tn) % qs.length]?).toList = _
        rw [HLQ.out, ← hjq, ha, hr, hy]
        rfl)
      obtain ⟨A', c', hs1, hs2, hs3, hs4, hs5⟩ := HS.out _ HB.out
      injection hs1 with t1 t2 t3
      subst t1 t3
      obtain ⟨bl, ol, hA, hbl, hcell⟩ := hs5 (by rw [HLQ.out]; omega)
      subst hA
      obtain ⟨c0, c1⟩ := hcell r y hy
      obtain ⟨y1, y2⟩ := y
      simp only at c0 c1
      have hsz : w.heap.size ≤ wo.heap.size := HB.out.size
      have HONE := Lib.hid (show ∀ u ∈ [Value.int .i64 y1, Value.int .i64 y2], u.oneCell' = true from fun u hu => by simp at hu; rcases hu with rfl | rfl <;> rfl)
      have HMX := Lib.hid (show k + 1 ≤ maxLen by unfold maxLen; omega)
      have HBY := Lib.hid (show (k + 1) * 16 ≤ 140737488355328 by omega)
      have HBA := Lib.hid (show w.heap.size ≤ (wo.alloc (.cells #[.int .i64 y1, .int .i64 y2] 25)).heap.size by simp; omega)
      clear hcell hy hr ha hjq hs2 hs3 hs4 hs5 t2
      go_wp2_with (at_builtin; refine wpList_append_own _ rfl _ _ 23 rfl w.heap.size 25 i0 (.agg #[.int .i64 0, .int .i64 0]) 2 16 Try.underlying23 hi0 hz0 hz1 hz2 rfl (by decide) _ _ _ rfl (HO.out.alloc _) ⟨wo.heap.size, 0, none⟩ 1 1 [.int .i64 y1, .int .i64 y2] rfl rfl (news_two _ _ rfl _ _ _) HONE.out HMX.out HBY.out HBA.out ?_)
      intro v2 w2 hown2 hgrow _
      have HON : Hid (w2.ownsRow w.heap.size 25 2 v2 (k + 1) (spansCells (turnL qs tn (k + 1)))) := Lib.hid (by rw [HTL.out, spansCells_snoc]; exact hown2)
      have HBN : Hid (Below w.heap.size w w2) := Lib.hid (by
        have hba := (Below.refl wo.heap.size wo).alloc (Nat.le_refl _) (.cells #[.int .i64 y1, .int .i64 y2] 25)
        have h1 := HB.out.trans (hba.mono hsz)
        exact h1.trans (below_grown5 hgrow h1.size (fun b hb => own_base5 HO.out b hb)))
      clear hown2 hgrow c0 c1
      go_wp2_with fail
      go_roundg (q - (k + 1))
      case measure => have := HG.out; omega
      case rel => exact ⟨k + 1, (j : Int) - 1, v2, by omega, rfl, rfl, by go_num, Lib.hid (by have := HII.out; omega), HON.out, HBN.out⟩
    · have hkq' : k = q := by omega
      have hI : I = -1 := by have := HII.out; omega
      subst hkq' hI
      have HOS : Hid (SpansAt wo ov (turnL qs tn k)) := Lib.hid (spans_of_own (base := w.heap.size) (e := 25) (by rw [turnL_size tn k (by have := HLQ.out; omega)]; exact HO.out) (by rw [turnL_size tn k (by have := HLQ.out; omega)]; omega))
      have HPM : Hid (qs.Perm (turnL qs tn k)) := Lib.hid (by have h9 := turnL_perm qs tn; rw [HLQ.out] at h9; exact h9)
      have HIT : Hid (IntsS (turnL qs tn k)) := Lib.hid (by have h9 := turnL_ints (l := qs) HI.out tn; rw [HLQ.out] at h9; exact h9)
      have HLT : Hid ((turnL qs tn k).length ≤ 300) := Lib.hid (by rw [turnL_size tn k (by have := HLQ.out; omega)]; omega)
      obtain ⟨os, hos⟩ : ∃ os, turnL qs tn k = os := ⟨_, rfl⟩
      rw [hos] at HOS HPM HIT HLT
      have HF1 := Lib.hid (HFU.out wo HB.out)
      have HF2 := Lib.hid (fun W (hk : Below w.heap.size w W) (hk2 : Below wo.heap.size wo W) => full_any f m ov os W (HOS.out.keep hk2) HIT.out HMM.out HLT.out)
      clear hos HO hlt HG HII
      go_wp2_with fail
      refine HF1.out.mono ?_
      rintro e w2 ⟨E, hwhy, hb2, hcase⟩
      have HK2 := Lib.hid (HB.out.trans (hb2.mono HB.out.size))
      have HO2 := Lib.hid hb2
      have HWH := Lib.hid hwhy
      rcases hcase with ⟨hE0, v3, rfl, hpl⟩ | ⟨hE0, rfl⟩
      · subst hE0
        obtain ⟨A1, d1, hv3, _, _⟩ := hpl.form
        obtain ⟨n1, hn1⟩ : ∃ n1, (fullT f m qs).length = n1 := ⟨_, rfl⟩
        rw [hn1] at hv3
        subst hv3
        have HN1 := Lib.hid hn1
        clear hn1
        obtain ⟨w3, Q, hw3, hQ, hQl, hbw3, hQb⟩ := box_any w2 #[.int .i64 0, .int .u32 0, .slice none 0 0] 28
        have HQB := Lib.hid hQb
        obtain ⟨w4, hw4⟩ : ∃ w4, w3.setRow Q #[.int .i64 f, .int .u32 m, .slice A1 n1 d1] = w4 := ⟨_, rfl⟩
        have hbw4 : Below w2.heap.size w2 w4 := by rw [← hw4]; exact below_row hbw3 (by omega) _
        have HKw4 := Lib.hid (HK2.out.trans (hbw4.mono HK2.out.size))
        have HQC : Hid (∀ W, Below w4.heap.size w4 W → W.cell? ⟨Q, 0, none⟩ = some (.int .i64 f) ∧ W.cell? ⟨Q, 1, none⟩ = some (.int .u32 m) ∧ W.cell? ⟨Q, 2, none⟩ = some (.slice A1 n1 d1)) := Lib.hid (by
          have hq : w4.heap[Q]? = some (.cells #[.int .i64 f, .int .u32 m, .slice A1 n1 d1] 28 (0, 0)) := by rw [← hw4]; exact setRow_heap _ _ _ _ _ _ hQb
          exact fun W hk => three_heads (keep_block hq hk))
        have HPL1 : Hid (∀ W, Below w4.heap.size w4 W → PlsAt W (.slice A1 n1 d1) (fullT f m qs)) := Lib.hid (fun W hk => (hpl.keep hbw4).keep hk)
        have HO4 := Lib.hid (HO2.out.trans (hbw4.mono HO2.out.size))
        clear hb2 hbw3 hbw4 hQb hpl hwhy
        unfold planA
        go_wp2_with (refine wpList_store_row rfl _ _ _ rfl Q #[.int .i64 f, .int .u32 m, .slice A1 n1 d1] rfl rfl 28 _ HQB.out (Try.sizePn _ _ _) rfl (one3 _ _ _ _ _) ?_)
        refine (HF2.out _ HKw4.out HO4.out).mono ?_
        rintro e w5 ⟨E2, hwhy2, hb5, hcase2⟩
        have HK5 := Lib.hid (HKw4.out.trans (hb5.mono HKw4.out.size))
        have HQ5 := Lib.hid hb5
        have hE2 : E2 = 0 := (why_perm HPM.out HWH.out hwhy2).1 rfl
        obtain ⟨_, v4, rfl, hpl2⟩ := hcase2.resolve_right fun h => h.1 hE2
        rw [← full_perm HPM.out] at hpl2
        obtain ⟨A2, d2, hv4, _, _⟩ := hpl2.form
        rw [HN1.out] at hv4
        subst hv4
        obtain ⟨w6, Z, hw6, hZ, hZl, hbw6, hZb⟩ := box_any w5 #[.int .i64 0, .int .u32 0, .slice none 0 0] 28
        have HZB := Lib.hid hZb
        obtain ⟨w7, hw7⟩ : ∃ w7, w6.setRow Z #[.int .i64 f, .int .u32 m, .slice A2 n1 d2] = w7 := ⟨_, rfl⟩
        have hbw7 : Below w5.heap.size w5 w7 := by rw [← hw7]; exact below_row hbw6 (by omega) _
        have HKw7 := Lib.hid (HK5.out.trans (hbw7.mono HK5.out.size))
        have HZC : Hid (∀ W, Below w7.heap.size w7 W → W.cell? ⟨Z, 0, none⟩ = some (.int .i64 f) ∧ W.cell? ⟨Z, 1, none⟩ = some (.int .u32 m) ∧ W.cell? ⟨Z, 2, none⟩ = some (.slice A2 n1 d2)) := Lib.hid (by
          have hq : w7.heap[Z]? = some (.cells #[.int .i64 f, .int .u32 m, .slice A2 n1 d2] 28 (0, 0)) := by rw [← hw7]; exact setRow_heap _ _ _ _ _ _ hZb
          exact fun W hk => three_heads (keep_block hq hk))
        have HQ7 := Lib.hid (HQ5.out.trans (hbw7.mono HQ5.out.size))
        obtain ⟨q0, q1, q2⟩ := HQC.out _ HQ7.out
        obtain ⟨z0, z1, z2⟩ := HZC.out _ (Below.refl _ _)
        have HSM := Lib.hid (fun W (hk : Below w7.heap.size w7 W) => refSame_any f m (.slice A1 n1 d1) (fullT f m qs) f m (.slice A2 n1 d2) (fullT f m qs) W (HPL1.out W (HQ7.out.trans (hk.mono HQ7.out.size))) ((hpl2.keep hbw7).keep hk))
        rw [show sameB f m (fullT f m qs) f m (fullT f m qs) = true from decide_eq_true ⟨rfl, rfl, rfl⟩] at HSM
        unfold planA at HSM
        clear hpl2 hcase2 hE2
        clear hb5 hbw6 hbw7 hZb hwhy2
        unfold planA
        go_wp2_with (refine wpList_store_row rfl _ _ _ rfl Z #[.int .i64 f, .int .u32 m, .slice A2 n1 d2] rfl rfl 28 _ HZB.out (Try.sizePn _ _ _) rfl (one3 _ _ _ _ _) ?_)
        refine (HSM.out _ (Below.refl _ _)).mono ?_
        rintro e w8 ⟨rfl, hb8⟩
        have HK8 := Lib.hid (HKw7.out.trans (hb8.mono HKw7.out.size))
        clear hb8 q0 q1 q2 z0 z1 z2
        go_wp2_with fail
        refine (HAW.out _).mono ?_
        rintro e wz ⟨rfl, hbz⟩
        have HKZ := Lib.hid (HK8.out.trans (hbz.mono HK8.out.size))
        clear hbz
        go_wp2_with fail
        go_ret
        exact ⟨rfl, HKZ.out⟩
      · have hbe : (E == 0) = false := by simpa using hE0
        have HNE := Lib.hid hE0
        clear hE0
        obtain ⟨w3, Q, hw3, hQ, hQl, hbw3, hQb⟩ := box_any w2 #[.int .i64 0, .int .u32 0, .slice none 0 0] 28
        have HQB := Lib.hid hQb
        obtain ⟨w4, hw4⟩ : ∃ w4, w3.setRow Q #[.int .i64 0, .int .u32 0, .slice none 0 0] = w4 := ⟨_, rfl⟩
        have hbw4 : Below w2.heap.size w2 w4 := by rw [← hw4]; exact below_row hbw3 (by omega) _
        have HKw4 := Lib.hid (HK2.out.trans (hbw4.mono HK2.out.size))
        have HQC : Hid (∀ W, Below w4.heap.size w4 W → W.cell? ⟨Q, 0, none⟩ = some (.int .i64 0) ∧ W.cell? ⟨Q, 1, none⟩ = some (.int .u32 0) ∧ W.cell? ⟨Q, 2, none⟩ = some (.slice none 0 0)) := Lib.hid (by
          have hq : w4.heap[Q]? = some (.cells #[.int .i64 0, .int .u32 0, .slice none 0 0] 28 (0, 0)) := by rw [← hw4]; exact setRow_heap _ _ _ _ _ _ hQb
          exact fun W hk => three_heads (keep_block hq hk))
        have HO4 := Lib.hid (HO2.out.trans (hbw4.mono HO2.out.size))
        clear hb2 hbw3 hbw4 hQb hwhy
        unfold planA
        go_wp2_with (refine wpList_store_row rfl _ _ _ rfl Q #[.int .i64 0, .int .u32 0, .slice none 0 0] rfl rfl 28 _ HQB.out (Try.sizePn _ _ _) rfl (one3 _ _ _ _ _) ?_)
        refine (HF2.out _ HKw4.out HO4.out).mono ?_
        rintro e w5 ⟨E2, hwhy2, hb5, hcase2⟩
        have HK5 := Lib.hid (HKw4.out.trans (hb5.mono HKw4.out.size))
        have HQ5 := Lib.hid hb5
        have hE2 : E2 ≠ 0 := fun h => HNE.out ((why_perm HPM.out HWH.out hwhy2).2 h)
        have hbe2 : (E2 == 0) = false := by simpa using hE2
        obtain ⟨_, rfl⟩ := hcase2.resolve_left fun h => hE2 h.1
        obtain ⟨w6, Z, hw6, hZ, hZl, hbw6, hZb⟩ := box_any w5 #[.int .i64 0, .int .u32 0, .slice none 0 0] 28
        have HZB := Lib.hid hZb
        obtain ⟨w7, hw7⟩ : ∃ w7, w6.setRow Z #[.int .i64 0, .int .u32 0, .slice none 0 0] = w7 := ⟨_, rfl⟩
        have hbw7 : Below w5.heap.size w5 w7 := by rw [← hw7]; exact below_row hbw6 (by omega) _
        have HKw7 := Lib.hid (HK5.out.trans (hbw7.mono HK5.out.size))
        have HZC : Hid (∀ W, Below w7.heap.size w7 W → W.cell? ⟨Z, 0, none⟩ = some (.int .i64 0) ∧ W.cell? ⟨Z, 1, none⟩ = some (.int .u32 0) ∧ W.cell? ⟨Z, 2, none⟩ = some (.slice none 0 0)) := Lib.hid (by
          have hq : w7.heap[Z]? = some (.cells #[.int .i64 0, .int .u32 0, .slice none 0 0] 28 (0, 0)) := by rw [← hw7]; exact setRow_heap _ _ _ _ _ _ hZb
          exact fun W hk => three_heads (keep_block hq hk))
        have HQ7 := Lib.hid (HQ5.out.trans (hbw7.mono HQ5.out.size))
        obtain ⟨q0, q1, q2⟩ := HQC.out _ HQ7.out
        obtain ⟨z0, z1, z2⟩ := HZC.out _ (Below.refl _ _)
        have HSM := Lib.hid (fun W => refSame_any 0 0 (.slice none 0 0) [] 0 0 (.slice none 0 0) [] W (PlsIn.nil _ _) (PlsIn.nil _ _))
        rw [show sameB 0 0 [] 0 0 [] = true from decide_eq_true ⟨rfl, rfl, rfl⟩] at HSM
        unfold planA at HSM
        clear hcase2 hE2
        clear hb5 hbw6 hbw7 hZb hwhy2
        unfold planA
        go_wp2_with (refine wpList_store_row rfl _ _ _ rfl Z #[.int .i64 0, .int .u32 0, .slice none 0 0] rfl rfl 28 _ HZB.out (Try.sizePn _ _ _) rfl (one3 _ _ _ _ _) ?_)
        refine (HSM.out _).mono ?_
        rintro e w8 ⟨rfl, hb8⟩
        have HK8 := Lib.hid (HKw7.out.trans (hb8.mono HKw7.out.size))
        clear hb8 q0 q1 q2 z0 z1 z2
        go_wp2_with fail
        refine (HAW.out _).mono ?_
        rintro e wz ⟨rfl, hbz⟩
        have HKZ := Lib.hid (HK8.out.trans (hbz.mono HK8.out.size))
        clear hbz
        go_wp2_with fail
        go_ret
        exact ⟨rfl, HKZ.out⟩
end Go.Proofs.Ytpfpojehcjmfnaa

/-
  An argument that is a plan, opened: its frame, its cores, its places, each with its pieces.
  Conditions: the reading itself.
-/
set_option linter.unusedVariables false
namespace Go.Proofs.Ytpfpojehcjmfnaa
open Go.ChangeShapes Go.WideShapes Go.RowKit Go.Deep

theorem Try.ownKnob : ownKnob Try.prog.godebug = none := by kernel_rfl
theorem Try.laidOut : laidOutB Try.prog = true := by kernel_rfl
theorem Try.cellsInt : Try.prog.cellsOf 3 = 1 := by kernel_rfl
theorem Try.cellsU64 : Try.prog.cellsOf 46 = 1 := by kernel_rfl
theorem Try.cellsPcs : Try.prog.cellsOf 39 = 1 := by kernel_rfl
theorem Try.cellsPc : Try.prog.cellsOf 48 = 2 := by kernel_rfl
theorem Try.cellsPl : Try.prog.cellsOf 41 = 4 := by kernel_rfl
theorem Try.cellsPn : Try.prog.cellsOf 28 = 3 := by kernel_rfl

theorem cell_lt {w : World} {b o : Nat} {v : Value} (h : w.cell? ⟨b, o, none⟩ = some v) : b < w.heap.size := by
  rcases Nat.lt_or_ge b w.heap.size with h1 | h1
  · exact h1
  · simp [World.cell?, Array.getElem?_eq_none h1] at h
theorem bounds_i64 {n : Int} (h : (Lit.int .i64 n).wf = true) : -9223372036854775808 ≤ n ∧ n ≤ 9223372036854775807 := by
  have e1 : IntKind.i64.min = -9223372036854775808 := by decide +kernel
  have e2 : IntKind.i64.max = 9223372036854775807 := by decide +kernel
  simp [Lit.wf] at h
  omega
theorem nat_of_u64 {n : Int} (h : (Lit.int .u64 n).wf = true) : ∃ m : Nat, n = (m : Int) ∧ m < 18446744073709551616 := by
  have e1 : IntKind.u64.min = 0 := by decide +kernel
  have e2 : IntKind.u64.max = 18446744073709551615 := by decide +kernel
  simp [Lit.wf] at h
  exact ⟨n.toNat, by omega, by omega⟩
theorem nat_of_u32 {n : Int} (h : (Lit.int .u32 n).wf = true) : ∃ m : Nat, n = (m : Int) ∧ m < 4294967296 := by
  have e1 : IntKind.u32.min = 0 := by decide +kernel
  have e2 : IntKind.u32.max = 4294967295 := by decide +kernel
  simp [Lit.wf] at h
  exact ⟨n.toNat, by omega, by omega⟩
def numOf : Value → Int
  | .int _ q => q
  | _ => 0
theorem array3 {α : Type} {cs : Array α} (h : cs.size = 3) : ∃ c0 c1 c2, cs = #[c0, c1, c2] := by
  obtain ⟨l⟩ := cs
  match l, h with
  | [c0, c1, c2], _ => exact ⟨c0, c1, c2, rfl⟩
theorem list3 {α : Type} {xs : List α} (h : xs.length = 3) : ∃ c0 c1 c2, xs = [c0, c1, c2] := by
  match xs, h with
  | [c0, c1, c2], _ => exact ⟨c0, c1, c2, rfl⟩
theorem list4 {α : Type} {xs : List α} (h : xs.length = 4) : ∃ c0 c1 c2 c3, xs = [c0, c1, c2, c3] := by
  match xs, h with
  | [c0, c1, c2, c3], _ => exact ⟨c0, c1, c2, c3, rfl⟩

/-- A struct of three one-cell fields, by value, opened. -/
theorem open_three {H : Type} {enc : TypeId × Value → H} {P : Program} {w : World} {base : Nat} {spare : Nat → Bool} {held : Bool} {r : Reach} {b0 : Nat} {t : TypeId} {f0 f1 f2 : Field} {v : Value} {d : DataW H} {p : List MemPlace} (hs : P.underlying t = some (.struct #[f0, f1, f2]))
    (hone : Go.Deep.oneCellFields P #[f0, f1, f2] = true) (hC : P.cellsOf t = 3) (hv : Value.okWide P w r b0 t v) (h : DataW.Trod enc P w base spare held t v d p) :
    ∃ (v0 v1 v2 : Value) (y0 y1 y2 : DataW H × List MemPlace) (n : Nat), v = .agg #[v0, v1, v2] ∧
      DataW.trod enc P w base spare held n f0.type [v0] = some y0 ∧ DataW.trod enc P w base spare held n f1.type [v1] = some y1 ∧ DataW.trod enc P w base spare held n f2.type [v2] = some y2 := by
  obtain ⟨cs, rfl, hsz⟩ := okWide_struct hs hv
  obtain ⟨c0, c1, c2, rfl⟩ := array3 (hsz.trans hC)
  obtain ⟨fuel, hf⟩ := h
  obtain ⟨xs, n, _, _, _, hlen, hfld⟩ := DataW.trod_struct hs hf
  obtain ⟨y0, y1, y2, rfl⟩ := list3 hlen
  have g0 := hfld 0 f0 rfl
  obtain ⟨o0, k0⟩ := Go.Deep.hone_of hone 0 f0 rfl
  have g1 := hfld 1 f1 rfl
  obtain ⟨o1, k1⟩ := Go.Deep.hone_of hone 1 f1 rfl
  have g2 := hfld 2 f2 rfl
  obtain ⟨o2, k2⟩ := Go.Deep.hone_of hone 2 f2 rfl
  exact ⟨c0, c1, c2, y0, y1, y2, n, rfl, by simpa [Value.cells, o0, k0] using g0, by simpa [Value.cells, o1, k1] using g1, by simpa [Value.cells, o2, k2] using g2⟩

section
variable {H : Type} {enc : TypeId × Value → H} {W : World} {sp : Nat → Bool} {held : Bool}
theorem pcs_open {fuel : Nat} {sv : Value} {x : DataW H × List MemPlace} (h : DataW.trod enc Try.prog W 0 sp held fuel 39 [sv] = some x) : ∃ ps, PcsAt W sv ps ∧ ∀ y ∈ ps, PcOk y := by
  rcases open_slice_pairs Try.underlying39 Try.underlying48 Try.cellsPc rfl rfl Try.cellsInt Try.cellsU64 h with ⟨hcs, _⟩ | ⟨a, len, cap, m, n, V0, V1, D0, D1, P0, P1, hcs, _, hl, hm, hmm, _, hcell⟩
  · simp only [List.cons.injEq, and_true] at hcs
    subst hcs
    exact ⟨[], PcsIn.nil _ W, by intro s hs; cases hs⟩
  · simp only [List.cons.injEq, and_true] at hcs
    subst hcs
    have hlm : len ≤ m := by rw [hmm]; split <;> omega
    have hint : ∀ i, i < len → (V0 i = .int .i64 (numOf (V0 i)) ∧ Int64 (numOf (V0 i))) ∧ (V1 i = .int .u64 ((numOf (V1 i)).toNat : Nat) ∧ (numOf (V1 i)).toNat < 18446744073709551616) := by
      intro i hi
      obtain ⟨_, _, g0, g1⟩ := hcell i (by omega)
      obtain ⟨n0, e0, _, w0⟩ := DataW.trod_int Try.underlying3 g0
      obtain ⟨n1, e1, _, w1⟩ := DataW.trod_int Try.underlying46 g1
      obtain ⟨k1, rfl, hk1⟩ := nat_of_u64 w1
      simp only [List.cons.injEq, and_true] at e0 e1
      rw [e0, e1]
      exact ⟨⟨rfl, bounds_i64 w0⟩, by simp [numOf], by simpa [numOf] using hk1⟩
    have hn : ((List.range len).map fun i => (⟨numOf (V0 i), (numOf (V1 i)).toNat⟩ : Pc)).length = len := by simp
    refine ⟨(List.range len).map fun i => ⟨numOf (V0 i), (numOf (V1 i)).toNat⟩, ⟨some a, cap, by rw [hn], by rw [hn]; exact hl, by unfold maxLen at hm; omega, fun h0 => ?_⟩, fun s hs => ?_⟩
    · rw [hn] at h0
      obtain ⟨b, off, spot⟩ := a
      have hspot : spot = none := by simpa [Addr.add] using World.cell?_spot (hcell 0 (by omega)).1
      subst hspot
      refine ⟨b, off, rfl, cell_lt (by have := (hcell 0 (by omega)).1; simpa [Addr.add] using this), trivial, fun j p hp => ?_⟩
      have hj : j < len := by
        have := (List.getElem?_eq_some_iff.1 hp).1
        omega
      have hp' : p = ⟨numOf (V0 j), (numOf (V1 j)).toNat⟩ := by
        rw [List.getElem?_map, List.getElem?_range hj] at hp
        simpa using hp.symm
      subst hp'
      obtain ⟨q0, q1, _⟩ := hcell j (by omega)
      rw [add_plain] at q0 q1
      exact ⟨by rw [q0, ← (hint j hj).1.1], by rw [Nat.add_assoc, q1, ← (hint j hj).2.1]⟩
    · obtain ⟨i, hi, rfl⟩ := List.mem_map.1 hs
      have hi' : i < len := by simpa using hi
      exact ⟨(hint i hi').1.2, (hint i hi').2.2⟩
theorem place_of_cells {fuel : Nat} {cs : List Value} {x : DataW H × List MemPlace} (h : DataW.trod enc Try.prog W 0 sp held fuel 41 cs = some x) :
    ∃ p : Value × Pl, PlOk p.2 ∧ PcsAt W p.1 p.2.ps ∧ cs = [.int .i64 p.2.u, .int .i64 p.2.s, .int .i64 p.2.c, p.1] := by
  obtain ⟨xs, n, _, _, hlen, hxs, hf⟩ := DataW.trod_struct Try.underlying41 h
  rw [Try.cellsPl] at hlen
  obtain ⟨v0, v1, v2, v3, rfl⟩ := list4 hlen
  obtain ⟨x0, x1, x2, x3, rfl⟩ := list4 (show xs.length = 4 from hxs)
  have g0 : DataW.trod enc Try.prog W 0 sp held n 3 (([v0, v1, v2, v3].drop 0).take (Try.prog.cellsOf 3)) = some x0 := hf 0 _ rfl
  have g1 : DataW.trod enc Try.prog W 0 sp held n 3 (([v0, v1, v2, v3].drop 1).take (Try.prog.cellsOf 3)) = some x1 := hf 1 _ rfl
  have g2 : DataW.trod enc Try.prog W 0 sp held n 3 (([v0, v1, v2, v3].drop 2).take (Try.prog.cellsOf 3)) = some x2 := hf 2 _ rfl
  have g3 : DataW.trod enc Try.prog W 0 sp held n 39 (([v0, v1, v2, v3].drop 3).take (Try.prog.cellsOf 39)) = some x3 := hf 3 _ rfl
  rw [Try.cellsInt] at g0 g1 g2
  rw [Try.cellsPcs] at g3
  simp only [List.drop_succ_cons, List.drop_zero, List.take_succ_cons, List.take_zero] at g0 g1 g2 g3
  obtain ⟨n0, e0, _, w0⟩ := DataW.trod_int Try.underlying3 g0
  obtain ⟨n1, e1, _, w1⟩ := DataW.trod_int Try.underlying3 g1
  obtain ⟨n2, e2, _, w2⟩ := DataW.trod_int Try.underlying3 g2
  obtain ⟨ps, hx, hxo⟩ := pcs_open g3
  simp only [List.cons.injEq, and_true] at e0 e1 e2
  exact ⟨(v3, ⟨n0, n1, n2, ps⟩), ⟨bounds_i64 w0, bounds_i64 w1, bounds_i64 w2, hxo⟩, hx, by rw [e0, e1, e2]⟩
instance : Inhabited (Value × Pl) := ⟨(undef, default)⟩
theorem pls_open {fuel : Nat} {sv : Value} {x : DataW H × List MemPlace} (h : DataW.trod enc Try.prog W 0 sp held fuel 26 [sv] = some x) :
    ∃ l : List Pl, PlsAt W sv l ∧ ∀ x ∈ l, PlOk x := by
  rcases open_slice Try.underlying26 h with ⟨h1, _⟩ | ⟨a, len, cap, m, n, D, Pm, h1, _, hl, hm, hmm, _, hi⟩
  · simp only [List.cons.injEq, and_true] at h1
    subst h1
    exact ⟨[], PlsIn.nil _ W, fun a ha => by cases ha⟩
  · simp only [List.cons.injEq, and_true] at h1
    subst h1
    have hlm : len ≤ m := by rw [hmm]; split <;> omega
    have key : ∀ i, i < len → ∃ x : Value × Pl, (PlOk x.2 ∧ PcsAt W x.1 x.2.ps) ∧ W.cell? (a.add (i * 4 + 0)) = some (.int .i64 x.2.u) ∧ W.cell? (a.add (i * 4 + 1)) = some (.int .i64 x.2.s) ∧ W.cell? (a.add (i * 4 + 2)) = some (.int .i64 x.2.c) ∧ W.cell? (a.add (i * 4 + 3)) = some x.1 := by
      intro i hlt
      obtain ⟨cs', hc, ht⟩ := hi i (by omega)
      rw [Try.cellsPl] at hc
      obtain ⟨x, hok, hx, rfl⟩ := place_of_cells ht
      obtain ⟨_, _, hat⟩ := World.cells?_some hc
      refine ⟨x, ⟨hok, hx⟩, ?_, ?_, ?_, ?_⟩
      · rw [← Go.Deep.add_add, hat 0 (by decide)]; rfl
      · rw [← Go.Deep.add_add, hat 1 (by decide)]; rfl
      · rw [← Go.Deep.add_add, hat 2 (by decide)]; rfl
      · rw [← Go.Deep.add_add, hat 3 (by decide)]; rfl
    obtain ⟨f, hf⟩ := choose_lt key
    have hn : ((List.range len).map f).length = len := by simp
    refine ⟨plsOf ((List.range len).map f), ⟨(List.range len).map f, rfl, some a, cap, by rw [hn], by rw [hn]; exact hl, by unfold maxLen at hm; omega, fun h0 => ?_, ?_⟩, ?_⟩
    · rw [hn] at h0
      obtain ⟨b, off, spot⟩ := a
      have hspot : spot = none := by simpa [Addr.add] using World.cell?_spot (hf 0 (by omega)).2.1
      subst hspot
      refine ⟨b, off, rfl, cell_lt (by have := (hf 0 (by omega)).2.1; simpa [Addr.add] using this), trivial, fun j p hp => ?_⟩
      have hj : j < len := by
        have := (List.getElem?_eq_some_iff.1 hp).1
        omega
      have hp' : p = f j := by
        rw [List.getElem?_map, List.getElem?_range hj] at hp
        simpa using hp.symm
      subst hp'
      obtain ⟨_, c0, c1, c2, c3⟩ := hf j hj
      rw [add_plain] at c0 c1 c2 c3
      simp only [← Nat.add_assoc, Nat.add_zero] at c0 c1 c2 c3
      exact ⟨c0, c1, c2, c3⟩
    · intro x hx
      obtain ⟨i, hi', rfl⟩ := List.mem_map.1 hx
      exact (hf i (List.mem_range.1 hi')).1.2
    · intro x hx
      obtain ⟨p, hp, rfl⟩ := List.mem_map.1 hx
      obtain ⟨i, hi', rfl⟩ := List.mem_map.1 hp
      exact (hf i (List.mem_range.1 hi')).1.1
set_option maxRecDepth 100000 in
theorem plan_open {r : Reach} {b0 : Nat} {v : Value} {d : DataW H} {p : List MemPlace}
    (hv : Value.okWide Try.prog W r b0 28 v) (h : DataW.Trod enc Try.prog W 0 sp held 28 v d p) : ∃ (f : Int) (m : Nat) (u : Value) (l : List Pl), v = planA f m u ∧ PlsAt W u l ∧ (∀ x ∈ l, PlOk x) ∧ m < 4294967296 ∧ Int64 f := by
  obtain ⟨v0, v1, v2, y0, y1, y2, n, rfl, g0, g1, g2⟩ := open_three Try.underlying28 (by kernel_rfl) Try.cellsPn hv h
  obtain ⟨n0, e0, _, w0⟩ := DataW.trod_int Try.underlying3 g0
  obtain ⟨n1, e1, _, w1⟩ := DataW.trod_int Try.underlying22 g1
  obtain ⟨k1, rfl, hk1⟩ := nat_of_u32 w1
  obtain ⟨l, hl, ho⟩ := pls_open g2
  simp only [List.cons.injEq, and_true] at e0 e1
  subst e0 e1
  exact ⟨n0, k1, v2, l, rfl, hl, ho, hk1, bounds_i64 w0⟩
end
end Go.Proofs.Ytpfpojehcjmfnaa

/-
  An argument that is a slice of wants, opened: the pairs of ints that it reads as.
  Conditions: the reading itself.
-/
set_option linter.unusedVariables false
namespace Go.Proofs.Ytpfpojehcjmfnaa
open Go.ChangeShapes Go.WideShapes Go.RowKit Go.Deep

theorem Try.cellsWant : Try.prog.cellsOf 25 = 2 := by kernel_rfl
theorem wants_open {H : Type} {enc : TypeId × Value → H} {W : World} {sp : Nat → Bool} {held : Bool} {fuel : Nat} {sv : Value} {x : DataW H × List MemPlace}
    (h : DataW.trod enc Try.prog W 0 sp held fuel 23 [sv] = some x) : ∃ ps, ArgAt W sv ps ∧ IntsS ps := by
  rcases open_slice_pairs Try.underlying23 Try.underlying25 Try.cellsWant rfl rfl Try.cellsInt Try.cellsInt h with ⟨hcs, _⟩ | ⟨a, len, cap, m, n, V0, V1, D0, D1, P0, P1, hcs, _, hl, hm, hmm, _, hcell⟩
  · simp only [List.cons.injEq, and_true] at hcs
    subst hcs
    exact ⟨[], ⟨none, 0, rfl, Nat.le_refl _, by simp, fun _ => rfl, fun h => absurd h (by simp)⟩, by intro s hs; cases hs⟩
  · simp only [List.cons.injEq, and_true] at hcs
    subst hcs
    have hlm : len ≤ m := by rw [hmm]; split <;> omega
    have hint : ∀ i, i < len → (V0 i = .int .i64 (numOf (V0 i)) ∧ -9223372036854775808 ≤ numOf (V0 i) ∧ numOf (V0 i) ≤ 9223372036854775807) ∧ (V1 i = .int .i64 (numOf (V1 i)) ∧ -9223372036854775808 ≤ numOf (V1 i) ∧ numOf (V1 i) ≤ 9223372036854775807) := by
      intro i hi
      obtain ⟨_, _, g0, g1⟩ := hcell i (by omega)
      obtain ⟨n0, e0, _, w0⟩ := DataW.trod_int Try.underlying3 g0
      obtain ⟨n1, e1, _, w1⟩ := DataW.trod_int Try.underlying3 g1
      simp only [List.cons.injEq, and_true] at e0 e1
      rw [e0, e1]
      exact ⟨⟨rfl, bounds_i64 w0⟩, rfl, bounds_i64 w1⟩
    have hn : ((List.range len).map fun i => (numOf (V0 i), numOf (V1 i))).length = len := by simp
    refine ⟨(List.range len).map fun i => (numOf (V0 i), numOf (V1 i)), ⟨some a, cap, by rw [hn], by rw [hn]; exact hl, by unfold maxLen at hm; omega, (fun h => by cases h), fun h0 => ?_⟩, fun s hs => ?_⟩
    · rw [hn] at h0
      obtain ⟨b, off, spot⟩ := a
      have hspot : spot = none := by simpa [Addr.add] using World.cell?_spot (hcell 0 (by omega)).1
      subst hspot
      refine ⟨b, off, rfl, cell_lt (by have := (hcell 0 (by omega)).1; simpa [Addr.add] using this), fun j p hp => ?_⟩
      have hj : j < len := by
        have := (List.getElem?_eq_some_iff.1 hp).1
        omega
      have hp' : p = (numOf (V0 j), numOf (V1 j)) := by
        rw [List.getElem?_map, List.getElem?_range hj] at hp
        simpa using hp.symm
      subst hp'
      obtain ⟨q0, q1, _⟩ := hcell j (by omega)
      rw [add_plain] at q0 q1
      exact ⟨by rw [q0, ← (hint j hj).1.1], by rw [Nat.add_assoc, q1, ← (hint j hj).2.1]⟩
    · obtain ⟨i, hi, rfl⟩ := List.mem_map.1 hs
      have hi' : i < len := by simpa using hi
      exact ⟨(hint i hi').1.2, (hint i hi').2.2⟩
end Go.Proofs.Ytpfpojehcjmfnaa
