/-
  An argument that is a slice of wants, opened: the pairs of ints that it reads as.
  Conditions: the reading itself.
-/
import Derived.Test.YtajgebcaobknoaaM02
import Derived.Test.YtajgebcaobknoaaM22
import Derived.Test.YtajgebcaobknoaaM23
import Derived.Test.YtajgebcaobknoaaM25
import Derived.OpenShut
import Derived.ChangeSlices
import Derived.ChangeOld
import Derived.ChangeArms
import Derived.Deep.SlicePairs
import Derived.Deep.Slices
import Derived.Deep.Fields
import Derived.Lib.SmallJoins

/-
  Lists of ints held against each other, by the document.
  Conditions: none.
-/
set_option linter.unusedVariables false
namespace Go.Proofs.Ytajgebcaobknoaa
open Go.RowKit

/-- What a call answers that reads only, and may draw. -/
def RetD (v : Value) (w : World) (e : Ending) (w' : World) : Prop := e = .returned v ∧ ∃ n, w' = w.drewN n
theorem RetD.below {v : Value} {w : World} {e : Ending} {w' : World} (h : RetD v w e w') : e = .returned v ∧ Below w.heap.size w w' := by
  obtain ⟨h1, n, rfl⟩ := h
  exact ⟨h1, below_drewN (Below.refl _ _) n⟩
theorem quiet_retD {P : Program} {f : FuncId} {args : Array Value} {w : World} {n : Nat} {v : Value} (h : Calls P f args (w.drewN n) (RetD v (w.drewN n))) :
    Calls P f args (w.drewN n) (fun e w' => e = .returned v ∧ ∃ n', w' = w.drewN n') :=
  h.mono (fun e w' h => ⟨h.1, by obtain ⟨_, q, rfl⟩ := h; exact ⟨n + q, World.drewN_drewN _ _ _⟩⟩)
theorem IntsAt.draw {W : World} {v : Value} {xs : List Int} (h : IntsAt W v xs) (q : Nat) : IntsAt (W.drewN q) v xs := h.keep (below_drewN (Below.refl _ _) q)

def SameRel (xs ys : List Int) (w : World) (g : Nat) (i : Value) (wr : World) : Prop := ∃ k : Nat, k ≤ xs.length ∧ g = xs.length - k ∧ i = .int .i64 k ∧ xs.take k = ys.take k ∧ ∃ q, wr = w.drewN q

theorem takeI_same {xs ys : List Int} {k : Nat} {x y : Int} (h : xs.take k = ys.take k) (hx : xs[k]? = some x) (hy : ys[k]? = some y) (e : x = y) : xs.take (k + 1) = ys.take (k + 1) := by
  rw [List.take_add_one, List.take_add_one, h, hx, hy, e]

theorem differI {xs ys : List Int} {k : Nat} {x y : Int} (hx : xs[k]? = some x) (hy : ys[k]? = some y) (e : x ≠ y) : xs ≠ ys := by
  rintro rfl
  rw [hx] at hy
  exact e (Option.some.inj hy)

set_option maxHeartbeats 1000000 in
theorem refInts_any (xs ys : List Int) (u v : Value) (w : World) (hs : IntsAt w u xs) (ht : IntsAt w v ys) :
    Calls Try.prog 10 #[u, v] w (RetD (.bool (decide (xs = ys))) w) := by
  obtain ⟨A, c, rfl, hl, hat⟩ := hs
  obtain ⟨B, d, rfl, hm, hbt⟩ := ht
  have HA := Lib.hid hat
  have HB := Lib.hid hbt
  clear hat hbt
  by_cases hne : xs.length = ys.length
  · have HN := Lib.hid hne
    have hn1 : ((xs.length : Int) == (ys.length : Int)) = true := by simp; omega
    have hn2 : ((xs.length : Int) != (ys.length : Int)) = false := by simp; omega
    clear hne
    obtain ⟨m, hm'⟩ : ∃ m, m = ys.length := ⟨_, rfl⟩
    rw [← hm'] at hm hn1 hn2 HN ⊢
    have HM := Lib.hid hm'
    clear hm'
    go_enter Try.func10, Try.ntmps10
    go_wp2_with fail
    go_loopg [5] xs.length (fun g i wr => SameRel xs ys w g i wr)
    case atStart => exact ⟨0, Nat.zero_le _, rfl, rfl, rfl, 0, rfl⟩
    case round =>
      obtain ⟨k, hk, hg, rfl, htk, q, hq⟩ := hrel
      have HG := Lib.hid hg
      have HT := Lib.hid htk
      have HQ := Lib.hid hq
      have HW := Lib.hid (show Below w.heap.size w wr by rw [hq]; exact below_drewN (Below.refl _ _) q)
      clear hg htk hq
      by_cases hlt : k < xs.length
      · obtain ⟨x, hx⟩ := exP_at (xs := xs) hlt
        obtain ⟨y, hy⟩ := exP_at (xs := ys) (k := k) (by have := HN.out; have := HM.out; omega)
        obtain ⟨b, off, rfl, hb, hc⟩ := HA.out (by omega)
        obtain ⟨b', off', rfl, hb', hc'⟩ := HB.out (by have := HN.out; have := HM.out; omega)
        have hck : wr.cell? ⟨b, off + k, none⟩ = some (.int .i64 x) := (HW.out.cell (p := ⟨b, off + k, none⟩) hb).trans (hc k x hx)
        have hck' : wr.cell? ⟨b', off' + k, none⟩ = some (.int .i64 y) := (HW.out.cell (p := ⟨b', off' + k, none⟩) hb').trans (hc' k y hy)
        have hkm : k < m := by have := HN.out; omega
        have HX := Lib.hid hx
        have HY := Lib.hid hy
        clear hc hc' hx hy
        by_cases hxy : x = y
        · have HE := Lib.hid hxy
          have hxy' : (x == y) = true := by simpa using hxy
          have hxy'' : (x != y) = false := by simpa using hxy
          clear hxy
          go_wp2_with fail
          go_quiet (fail)
          go_wp2_with fail
          go_roundg (xs.length - (k + 1))
          case measure => have := HG.out; omega
          case rel => exact ⟨k + 1, by omega, rfl, by go_num, takeI_same HT.out HX.out HY.out HE.out, _, by rw [HQ.out, World.drewN_drewN]⟩
        · have E := Lib.hid (decide_eq_false (differI HX.out HY.out hxy))
          have hxy' : (x == y) = false := by simpa using hxy
          have hxy'' : (x != y) = true := by simpa using hxy
          clear hxy
          go_wp2_with fail
          go_quiet (fail)
          go_wp2_with fail
          go_ret
          exact ⟨ret_bool E.out.symm, _, by rw [HQ.out, World.drewN_drewN]⟩
      · have E := Lib.hid (decide_eq_true (show xs = ys by
          have := HT.out
          rwa [List.take_of_length_le (by omega), List.take_of_length_le (by have := HN.out; have := HM.out; omega)] at this))
        go_wp2_with fail
        go_ret
        exact ⟨ret_bool E.out.symm, _, HQ.out⟩
  · have E := Lib.hid (decide_eq_false (show ¬ xs = ys from fun e => hne (by rw [e])))
    have hn1 : ((xs.length : Int) == (ys.length : Int)) = false := by simp; omega
    have hn2 : ((xs.length : Int) != (ys.length : Int)) = true := by simp; omega
    clear hne
    go_enter Try.func10, Try.ntmps10
    go_wp2_with fail
    go_ret
    exact ⟨ret_bool E.out.symm, 0, rfl⟩
theorem sameI_any (xs : List Int) (u v : Value) (w : World) (hs : IntsAt w u xs) (ht : IntsAt w v xs) : Calls Try.prog 10 #[u, v] w (RetB (.bool true) w) :=
  (refInts_any xs xs u v w hs ht).mono fun e w' h => by
    have h := h.below
    rw [decide_eq_true rfl] at h
    exact h
end Go.Proofs.Ytajgebcaobknoaa

/-
  The law of wants along the chain: ChainSplits.
  Conditions: the slices read as places, as wants; the numbers are of their kinds.
-/
set_option linter.unusedVariables false
set_option linter.unusedSimpArgs false
namespace Go.Proofs.Ytajgebcaobknoaa
open Go.RowKit

set_option maxRecDepth 100000 in
set_option maxHeartbeats 8000000 in
theorem splits_law (f : Int) (m : Nat) (v : Value) (l : List Pl) (vw : Value) (ps : List Sp) (w : World) (h : PlsAt w v l) (ho : ∀ x ∈ l, PlOk x) (hm : m < 4294967296) (hv : ArgAt w vw ps) (hi : IntsS ps) :
    Calls Try.prog 3 #[planA f m v, vw] w (RetB (.bool true) w) := by
  have mixed : Try.prog.follows .mixedOrders = true := by kernel_rfl
  have HAW := Lib.hid (fun W => awake_any W)
  obtain ⟨A, cA, rfl, hlc, hcm⟩ := h.form
  obtain ⟨nl, hnl⟩ : ∃ nl, l.length = nl := ⟨_, rfl⟩
  rw [hnl] at h hlc ⊢
  have harg := hv
  obtain ⟨B, d, rfl, hc1, hc2, hnil, _⟩ := hv
  have hs := harg.cut 60 (by decide)
  have hi' := hi.take 60
  have hlq : (ps.take 60).length = min ps.length 60 := by rw [List.length_take, Nat.min_comm]
  have hmn : min (ps.length : Int) 60 = ((min ps.length 60 : Nat) : Int) := by omega
  have hmle : min ps.length 60 ≤ ps.length := Nat.min_le_left _ _
  have hm60 : min ps.length 60 ≤ 60 := Nat.min_le_right _ _
  generalize ps.take 60 = qs at *
  generalize ps.length = n at *
  generalize min n 60 = q at *
  have hmc : (q : Int) ≤ (d : Int) := by omega
  have hm0 : (0 : Int) ≤ (q : Int) := by omega
  have HLQ := Lib.hid hlq
  obtain ⟨w1, P, hw1, hP, hPl, hb1, hbox⟩ := box_any w #[.int .i64 f, .int .u32 m, .slice A nl cA] 25
  have HB1 := Lib.hid hb1
  have HBOX := Lib.hid hbox
  have HH : Hid (∀ W, Below w1.heap.size w1 W → PlsAt W (.slice A nl cA) l) := Lib.hid (fun W hk => h.keep (HB1.out.trans (hk.mono HB1.out.size)))
  have HS : Hid (∀ W, Below w1.heap.size w1 W → SpansAt W (.slice B q d) qs) := Lib.hid (fun W hk => hs.keep (HB1.out.trans (hk.mono HB1.out.size)))
  have HLI := Lib.hid (fun W (hk : Below w1.heap.size w1 W) => calls_iff (light_any f m (.slice A nl cA) l W (HH.out W hk)))
  have HK1 := Lib.hid (Below.refl w1.heap.size w1)
  have HNL := Lib.hid hnl
  obtain ⟨r0, r1, r2⟩ := three_heads hbox
  unfold planA at HLI ⊢
  clear h hb1 hbox harg hi hs hnil hnl hlq
  by_cases hlit : Lit l
  · have hL := hlit.light ho
    have HLY := Lib.hid (fun W hk => (HLI.out W hk).1 hlit)
    have hnl60 : nl ≤ 60 := by rw [← HNL.out]; exact hlit.2
    have HFT := Lib.hid (fun W hk => split_any f m (.slice A nl cA) l (.slice B q d) qs W (HH.out W hk) hL (HS.out W hk) hi' hm (by have := HNL.out; have := HLQ.out; omega))
    have HWY := Lib.hid (fun W hk => refWhyC_any f m (.slice A nl cA) l (.slice B q d) qs W (HH.out W hk) hL (HS.out W hk) hi' hm)
    have HLO := Lib.hid hL
    have HRO := Lib.hid (fun W hk => chRooms_any f m (.slice A nl cA) l W (HH.out W hk) hL hm)
    have HRI := Lib.hid (fun W hk => calls_iff (right_any f m (.slice A nl cA) l W (HH.out W hk) hL hm))
    have HRF := Lib.hid (fun (hr : Right f m l) W hk => refRoomsC_any f m (.slice A nl cA) l W (HH.out W hk) hL hr)
    have HRS0 := Lib.hid (fun (hg : ChGoes f m l qs) W hk => refSplitC_any f m (.slice A nl cA) l (.slice B q d) qs W (HH.out W hk) hL (HS.out W hk) hg (by have := HNL.out; have := HLQ.out; omega))
    have HRP : Hid (∀ W, Below w1.heap.size w1 W → W.cell? ⟨P, 0, none⟩ = some (.int .i64 f) ∧ W.cell? ⟨P, 1, none⟩ = some (.int .u32 m) ∧ W.cell? ⟨P, 2, none⟩ = some (.slice A nl cA)) := Lib.hid (fun W hk => three_heads (keep_block HBOX.out hk))
    unfold planA at HRO HRI HRF HRS0
    unfold planA at HFT HWY
    clear HLI hlit hL ho hi'
    go_enter Try.func3, Try.ntmps3
    go_wp2_with fail
    refine (HLY.out _ HK1.out).mono ?_
    rintro e w2 ⟨rfl, hb2⟩
    have HK2 := Lib.hid hb2
    clear hb2 r0 r1 r2 hw1 hP
    obtain ⟨r0, r1, r2⟩ := three_heads (keep_block HBOX.out HK2.out)
    go_wp2_with fail
    refine (HRO.out _ HK2.out).mono ?_
    rintro e w3 ⟨hb3, hro⟩
    have HK3 := Lib.hid (HK2.out.trans (hb3.mono HK2.out.size))
    obtain ⟨v5, rfl, hcase⟩ : ∃ v5, e = .returned v5 ∧ ((Right f m l ∧ IntsAt w3 v5 (rmL f m l 16)) ∨ (¬ Right f m l ∧ v5 = .slice none 0 0)) := by
      rcases hro with ⟨hr, R, he, _, hrow⟩ | ⟨hr, he⟩
      · refine ⟨_, he, .inl ⟨hr, some ⟨R, 0, none⟩, 16, by rw [rmL_length], by rw [rmL_length]; decide, fun _ => ⟨R, 0, rfl, heap_lt hrow, fun j x hx => ?_⟩⟩⟩
        have hj : j < 16 := by have := (List.getElem?_eq_some_iff.1 hx).1; rw [rmL_length] at this; exact this
        rw [rmL_get hj] at hx
        rw [Nat.zero_add, RowI.cell hrow hj, Option.some.inj hx]
      · exact ⟨_, he, .inr ⟨hr, rfl⟩⟩
    clear hb3 hro r0 r1 r2
    obtain ⟨r0, r1, r2⟩ := HRP.out _ HK3.out
    go_upto_region 5 with fail
    go_cut [38] from 20 to 38 (fun s38 wx => s38 = .bool false ∧ Below w1.heap.size w1 wx)
    case first =>
      as_aux_lemma =>
        rcases hcase with ⟨hr, hints⟩ | ⟨hr, rfl⟩
        · have HRY := Lib.hid (fun W hk => (HRI.out W hk).1 hr)
          have HRF2 := Lib.hid (HRF.out hr)
          have HIN := Lib.hid hints
          clear hints HRF HRI hr
          obtain ⟨A5, c5, hv5, _⟩ := HIN.out
          rw [rmL_length] at hv5
          subst hv5
          go_wp2_with fail
          refine (HRY.out _ HK3.out).mono ?_
          rintro e w4 ⟨rfl, hb4⟩
          have HK4 := Lib.hid (HK3.out.trans (hb4.mono HK3.out.size))
          have HIN4 := Lib.hid (HIN.out.keep hb4)
          clear r0 r1 r2 hb4
          obtain ⟨r0, r1, r2⟩ := HRP.out _ HK4.out
          go_wp2_with fail
          refine (HRF2.out _ HK4.out).mono ?_
          rintro e w5 ⟨v6, rfl, hown, hb5⟩
          have HK5 := Lib.hid (HK4.out.trans (hb5.mono HK4.out.size))
          have HIN6 : Hid (IntsAt w5 v6 (rmL f m l 16)) := Lib.hid (ints_of_own (by rw [rmL_length]; exact hown) (by rw [rmL_length]; decide))
          have HSI := Lib.hid (refInts_any _ _ _ v6 w5 (HIN4.out.keep hb5) HIN6.out)
          rw [decide_eq_true (rfl : rmL f m l 16 = rmL f m l 16)] at HSI
          clear r0 r1 r2 hown hb5
          go_wp2_with fail
          refine HSI.out.mono ?_
          rintro e w6 hsm
          obtain ⟨rfl, hb6⟩ := hsm.below
          have HK6 := Lib.hid (HK5.out.trans (hb6.mono HK5.out.size))
          clear hsm hb6
          obtain ⟨r0, r1, r2⟩ := HRP.out _ HK6.out
          go_wp2_with fail
          refine (HRY.out _ HK6.out).mono ?_
          rintro e w7 ⟨rfl, hb7⟩
          have HK7 := Lib.hid (HK6.out.trans (hb7.mono HK6.out.size))
          clear r0 r1 r2 hb7
          go_wp2_with fail
          go_meet
          exact ⟨rfl, HK7.out⟩
        · have HRY := Lib.hid (fun W hk => (HRI.out W hk).2 hr)
          clear HRF HRI hr
          go_wp2_with fail
          refine (HRY.out _ HK3.out).mono ?_
          rintro e w4 ⟨rfl, hb4⟩
          have HK4 := Lib.hid (HK3.out.trans (hb4.mono HK3.out.size))
          clear r0 r1 r2 hb4
          obtain ⟨r0, r1, r2⟩ := HRP.out _ HK4.out
          go_wp2_with fail
          refine (HRY.out _ HK4.out).mono ?_
          rintro e w5 ⟨rfl, hb5⟩
          have HK5 := Lib.hid (HK4.out.trans (hb5.mono HK4.out.size))
          clear r0 r1 r2 hb5
          go_wp2_with fail
          go_meet
          exact ⟨rfl, HK5.out⟩
    case rest =>
    obtain ⟨rfl, hbx⟩ := hcut
    have HKC := Lib.hid hbx
    clear hbx hcase r0 r1 r2
    obtain ⟨r0, r1, r2⟩ := HRP.out _ HKC.out
    go_wp2_with fail
    refine (HFT.out _ HKC.out).mono ?_
    rintro e w3 ⟨E, hwhy, hb3, hcase⟩
    have HK3 := Lib.hid (HKC.out.trans (hb3.mono HKC.out.size))
    have HWH := Lib.hid hwhy
    clear r0 r1 r2
    obtain ⟨r0, r1, r2⟩ := three_heads (keep_block HBOX.out HK3.out)
    rcases hcase with ⟨hE0, v3, rfl, hpl⟩ | ⟨hE0, rfl⟩
    · subst hE0
      have hg := HWH.out.zero
      have hinv := hg.all
      obtain ⟨Lq, aq, hst⟩ : ∃ Lq aq, chT f m l qs = (Lq, aq) := ⟨_, _, rfl⟩
      rw [hst] at hpl hinv
      simp only at hpl
      have hR : Right f m Lq := hinv.ready.right
      have hlen : Lq.length = nl + q := by have h1 := hinv.len; have h2 := HNL.out; have h3 := HLQ.out; simp only at h1; omega
      have hLq : LightL Lq := ⟨by omega, hinv.ok HLO.out.ok⟩
      obtain ⟨A3, d3, hv3, _, _⟩ := hpl.form
      obtain ⟨n3, hn3⟩ : ∃ n3, Lq.length = n3 := ⟨_, rfl⟩
      have HN3 := Lib.hid hn3
      rw [hn3] at hv3 hlen
      subst hv3
      obtain ⟨w4, Q, hw4, hQ, hQl, hb4, hqb⟩ := box_any w3 #[.int .i64 0, .int .u32 0, .slice none 0 0] 25
      have HQB := Lib.hid hqb
      obtain ⟨w5, hw5⟩ : ∃ w5, w4.setRow Q #[.int .i64 f, .int .u32 m, .slice A3 n3 d3] = w5 := ⟨_, rfl⟩
      have hb5 : Below w3.heap.size w3 w5 := by rw [← hw5]; exact below_row hb4 (by omega) _
      have HK5 := Lib.hid (HK3.out.trans (hb5.mono HK3.out.size))
      have HW5 := Lib.hid (HB1.out.trans (HK5.out.mono HB1.out.size))
      have HQ5 : Hid (w5.heap[Q]? = some (.cells #[.int .i64 f, .int .u32 m, .slice A3 n3 d3] 25 (0, 0))) := Lib.hid (by rw [← hw5]; exact setRow_heap _ _ _ _ _ _ hqb)
      have HQC : Hid (∀ W, Below w5.heap.size w5 W → W.cell? ⟨Q, 0, none⟩ = some (.int .i64 f) ∧ W.cell? ⟨Q, 1, none⟩ = some (.int .u32 m) ∧ W.cell? ⟨Q, 2, none⟩ = some (.slice A3 n3 d3)) := Lib.hid (fun W hk => three_heads (keep_block HQ5.out hk))
      have HPC : Hid (∀ W, Below w5.heap.size w5 W → W.cell? ⟨P, 0, none⟩ = some (.int .i64 f) ∧ W.cell? ⟨P, 1, none⟩ = some (.int .u32 m) ∧ W.cell? ⟨P, 2, none⟩ = some (.slice A nl cA)) := Lib.hid (fun W hk => three_heads (keep_block HBOX.out (HK5.out.trans (hk.mono HK5.out.size))))
      have HPQ : Hid (∀ W, Below w5.heap.size w5 W → PlsAt W (.slice A3 n3 d3) Lq) := Lib.hid (fun W hk => (hpl.any.keep hb5).keep hk)
      have HH5 : Hid (∀ W, Below w5.heap.size w5 W → PlsAt W (.slice A nl cA) l) := Lib.hid (fun W hk => HH.out W (HK5.out.trans (hk.mono HK5.out.size)))
      have HS5 : Hid (∀ W, Below w5.heap.size w5 W → SpansAt W (.slice B q d) qs) := Lib.hid (fun W hk => HS.out W (HK5.out.trans (hk.mono HK5.out.size)))
      have HK50 := Lib.hid (Below.refl w5.heap.size w5)
      have HRS : Hid (∀ W, Below w5.heap.size w5 W → Calls Try.prog 15 #[.agg #[.int .i64 f, .int .u32 m, .slice A nl cA], .slice B q d] W (fun e w' => ∃ v', e = .returned (planA f m v') ∧ PlsAt w' v' Lq ∧ Below W.heap.size W w')) := Lib.hid (fun W hk => by
        have h := HRS0.out hg W (HK5.out.trans (hk.mono HK5.out.size))
        rw [hst] at h
        exact h)
      have HSA : Hid (∀ W v', PlsAt W (.slice A3 n3 d3) Lq → PlsAt W v' Lq → Calls Try.prog 14 #[.agg #[.int .i64 f, .int .u32 m, .slice A3 n3 d3], .agg #[.int .i64 f, .int .u32 m, v']] W (RetB (.bool true) W)) := Lib.hid (fun W v' h1 h2 => by
        have h := refSame_any f m (.slice A3 n3 d3) Lq f m v' Lq W h1 h2
        rw [show sameB f m Lq f m Lq = true from decide_eq_true ⟨rfl, rfl, rfl⟩] at h
        exact h)
      have HSC : Hid (∀ W, Below w5.heap.size w5 W → W.cell? ⟨Q, 0, none⟩ = some (.int .i64 f) ∧ W.cell? ⟨Q, 1, none⟩ = some (.int .u32 m) ∧ W.cell? ⟨Q, 2, none⟩ = some (.slice A3 n3 d3) ∧ W.cell? ⟨P, 0, none⟩ = some (.int .i64 f) ∧ W.cell? ⟨P, 1, none⟩ = some (.int .u32 m) ∧ W.cell? ⟨P, 2, none⟩ = some (.slice A nl cA)) := Lib.hid (fun W hk => by
        obtain ⟨a0, a1, a2⟩ := HQC.out W hk
        exact ⟨a0, a1, a2, HPC.out W hk⟩)
      have HLEN := Lib.hid hlen
      have hn3b : n3 ≤ 200 := by omega
      clear hpl hb3 hb4 hb5 hqb hinv hst hR hLq hg hn3 r0 r1 r2 hwhy hlen
      unfold planA
      obtain ⟨q0, q1, q2⟩ := HQC.out _ HK50.out
      obtain ⟨r0, r1, r2⟩ := HPC.out _ HK50.out
      go_wp2_with (refine wpList_store_row rfl _ _ _ rfl Q #[.int .i64 f, .int .u32 m, .slice A3 n3 d3] rfl rfl 25 _ HQB.out (Try.sizePn _ _ _) rfl (one3 _ _ _ _ _) ?_)
      refine (HWY.out _ HK5.out).mono ?_
      rintro e w6 ⟨E', rfl, hwhy', hb6⟩
      have hEE : E' = 0 := hwhy'.unique HWH.out
      subst hEE
      have HK6 := Lib.hid hb6
      have hkd := HK6.out.drew
      clear hb6 hwhy' hw5 hw4 hQ r0 r1 r2 q0 q1 q2
      go_wp2_with fail
      as_aux_lemma =>
        refine wp_region_held_drew (S := fun w' => w'.cell? ⟨Q, 0, none⟩ = some (.int .i64 f) ∧ w'.cell? ⟨Q, 1, none⟩ = some (.int .u32 m) ∧ w'.cell? ⟨Q, 2, none⟩ = some (.slice A3 n3 d3) ∧ w'.cell? ⟨P, 0, none⟩ = some (.int .i64 f) ∧ w'.cell? ⟨P, 1, none⟩ = some (.int .u32 m) ∧ w'.cell? ⟨P, 2, none⟩ = some (.slice A nl cA)) (by kernel_rfl) ?_ (fun hHeld => ?_)
        · exact HSC.out _ hkd
        refine wpAnyH_take (i := 0) (oi := ⟨some 61, _, _, _, _, _⟩) (v := ?_) rfl (by kernel_rfl) (by kernel_rfl) (by kernel_rfl) (fun _ _ _ h => h) (Or.inl ⟨by kernel_rfl, ?_⟩) (by assumption) ?_
        rotate_left
        · (intro w hSw; (try dsimp only at hSw); go_simp; try with_reducible rfl)
        (try simp only [Act.put, List.setIfInBounds_toArray, List.set_cons_zero, List.set_cons_succ])
        refine wpAnyH_take (i := 1) (oi := ⟨some 62, _, _, _, _, _⟩) (v := ?_) rfl (by kernel_rfl) (by kernel_rfl) (by kernel_rfl) (fun _ _ _ h => h) (Or.inl ⟨by kernel_rfl, ?_⟩) (by assumption) ?_
        rotate_left
        · (intro w hSw; (try dsimp only at hSw); go_simp; try with_reducible rfl)
        (try simp only [Act.put, List.setIfInBounds_toArray, List.set_cons_zero, List.set_cons_succ])
        refine wpAnyH_take (i := 2) (oi := ⟨some 63, _, _, _, _, _⟩) (v := ?_) rfl (by kernel_rfl) (by kernel_rfl) (by kernel_rfl) (fun _ _ _ h => h) (Or.inl ⟨by kernel_rfl, ?_⟩) (by assumption) ?_
        rotate_left
        · (intro w hSw; (try dsimp only at hSw); go_simp; try with_reducible rfl)
        (try simp only [Act.put, List.setIfInBounds_toArray, List.set_cons_zero, List.set_cons_succ])
        refine wpAnyH_take (i := 3) (oi := ⟨some 64, _, _, _, _, _⟩) (v := ?_) rfl (by kernel_rfl) (by kernel_rfl) (by kernel_rfl) (fun _ _ _ h => h) (Or.inl ⟨by kernel_rfl, ?_⟩) (by assumption) ?_
        rotate_left
        · (intro w hSw; (try dsimp only at hSw); go_simp; try with_reducible rfl)
        (try simp only [Act.put, List.setIfInBounds_toArray, List.set_cons_zero, List.set_cons_succ])
        refine wpAnyH_take (i := 4) (oi := ⟨some 65, _, _, _, _, _⟩) (v := ?_) rfl (by kernel_rfl) (by kernel_rfl) (by kernel_rfl) (fun _ _ _ h => h) (Or.inl ⟨by kernel_rfl, ?_⟩) (by assumption) ?_
        rotate_left
        · (intro w hSw; (try dsimp only at hSw); go_simp; try with_reducible rfl)
        (try simp only [Act.put, List.setIfInBounds_toArray, List.set_cons_zero, List.set_cons_succ])
        refine wpAnyH_take (i := 5) (oi := ⟨some 66, _, _, _, _, _⟩) (v := ?_) rfl (by kernel_rfl) (by kernel_rfl) (by kernel_rfl) (fun _ _ _ h => h) (Or.inl ⟨by kernel_rfl, ?_⟩) (by assumption) ?_
        rotate_left
        · (intro w hSw; (try dsimp only at hSw); go_simp; try with_reducible rfl)
        (try simp only [Act.put, List.setIfInBounds_toArray, List.set_cons_zero, List.set_cons_succ])
        refine wpAnyH_ready (rs := [6]) (by kernel_rfl) (by simp) ?_
        refine AllReadyH.cons (o := ⟨some 67, _, _, _, _, _⟩) rfl (fun K hK => ?_) AllReadyH.nil
        rw [if_pos (by kernel_rfl)]
        go_simp
        go_at_call 15; refine (HRS.out _ hkd).mono ?_; rintro e wa ⟨va, rfl, hpa, hba⟩
        have hka := hkd.trans (hba.mono hkd.size)
        unfold planA
        refine hK.out _ _ ?_ (fun hHeld => ?_)
        · exact HSC.out _ hka
        clear hK K
        (try simp only [Act.put, List.setIfInBounds_toArray, List.set_cons_zero, List.set_cons_succ])
        refine wpAnyH_ready (rs := [7]) (by kernel_rfl) (by simp) ?_
        refine AllReadyH.cons (o := ⟨some 68, _, _, _, _, _⟩) rfl (fun K hK => ?_) AllReadyH.nil
        rw [if_pos (by kernel_rfl)]
        go_simp
        go_at_call 14; refine (HSA.out wa va (HPQ.out _ hka) hpa).mono ?_; rintro e wb ⟨rfl, hbb⟩
        have hkb := hka.trans (hbb.mono hka.size)
        refine hK.out _ _ ?_ (fun hHeld => ?_)
        · exact HSC.out _ hkb
        clear hK K
        (try simp only [Act.put, List.setIfInBounds_toArray, List.set_cons_zero, List.set_cons_succ])
        refine wpAnyH_take (i := 8) (oi := ⟨some 69, _, _, _, _, _⟩) (v := ?_) rfl (by kernel_rfl) (by kernel_rfl) (by kernel_rfl) (fun _ _ _ h => h) (Or.inl ⟨by kernel_rfl, ?_⟩) (by assumption) ?_
        rotate_left
        · (intro w hSw; (try dsimp only at hSw); go_simp; try with_reducible rfl)
        (try simp only [Act.put, List.setIfInBounds_toArray, List.set_cons_zero, List.set_cons_succ])
        refine wpAnyH_take (i := 9) (oi := ⟨some 70, _, _, _, _, _⟩) (v := ?_) rfl (by kernel_rfl) (by kernel_rfl) (by kernel_rfl) (fun _ _ _ h => h) (Or.inl ⟨by kernel_rfl, ?_⟩) (by assumption) ?_
        rotate_left
        · (intro w hSw; (try dsimp only at hSw); go_simp; try with_reducible rfl)
        (try simp only [Act.put, List.setIfInBounds_toArray, List.set_cons_zero, List.set_cons_succ])
        refine wpAnyH_ready (rs := [10]) (by kernel_rfl) (by simp) ?_
        refine AllReadyH.cons (o := ⟨some 71, _, _, _, _, _⟩) rfl (fun K hK => ?_) AllReadyH.nil
        rw [if_pos (by kernel_rfl)]
        go_simp
        go_at_call 7; refine (HAW.out _).mono ?_; rintro e wd ⟨rfl, hbd⟩
        have hkw := hkb.trans (hbd.mono hkb.size)
        refine hK.out _ _ ?_ (fun hHeld => ?_)
        · exact HSC.out _ hkw
        clear hK K
        (try simp only [Act.put, List.setIfInBounds_toArray, List.set_cons_zero, List.set_cons_succ])
        refine wpAnyH_take (i := 11) (oi := ⟨some 72, _, _, _, _, _⟩) (v := ?_) rfl (by kernel_rfl) (by kernel_rfl) (by kernel_rfl) (fun _ _ _ h => h) (Or.inl ⟨by kernel_rfl, ?_⟩) (by assumption) ?_
        rotate_left
        · (intro w hSw; (try dsimp only at hSw); go_simp; try with_reducible rfl)
        (try simp only [Act.put, List.setIfInBounds_toArray, List.set_cons_zero, List.set_cons_succ])
        refine wpAnyH_take (i := 12) (oi := ⟨some 4, _, _, _, _, _⟩) (v := ?_) rfl (by kernel_rfl) (by kernel_rfl) (by kernel_rfl) (fun _ _ _ h => h) (Or.inl ⟨by kernel_rfl, ?_⟩) (by assumption) ?_
        rotate_left
        · (intro w hSw; (try dsimp only at hSw); go_simp; try with_reducible rfl)
        (try simp only [Act.put, List.setIfInBounds_toArray, List.set_cons_zero, List.set_cons_succ])
        refine wpAnyH_done (by kernel_rfl) ?_ _
        have HK9 := Lib.hid (HW5.out.trans (hkw.mono HW5.out.size))
        clear hHeld hba hbb hbd hka hkb hkw
        go_wp2_with fail
        go_ret
        exact ⟨rfl, HK9.out⟩
    · have hb0 : (E != 0) = true := by simpa using hE0
      have HE := Lib.hid hE0
      clear hb3 hwhy hE0
      obtain ⟨w4, Q, hw4, hQ, hQl, hb4, hqb⟩ := box_any w3 #[.int .i64 0, .int .u32 0, .slice none 0 0] 25
      have HK4 := Lib.hid (HK3.out.trans (hb4.mono HK3.out.size))
      have HQB := Lib.hid hqb
      obtain ⟨w5, hw5⟩ : ∃ w5, w4.setRow Q #[.int .i64 0, .int .u32 0, .slice none 0 0] = w5 := ⟨_, rfl⟩
      have hb5 : Below w3.heap.size w3 w5 := by rw [← hw5]; exact below_row hb4 (by omega) _
      have HK5 := Lib.hid (HK3.out.trans (hb5.mono HK3.out.size))
      have HQ5 : Hid (w5.heap[Q]? = some (.cells #[.int .i64 0, .int .u32 0, .slice none 0 0] 25 (0, 0))) := Lib.hid (by rw [← hw5]; exact setRow_heap _ _ _ _ _ _ hqb)
      clear r0 r1 r2 hb4 hb5 hqb
      unfold planA
      obtain ⟨r0, r1, r2⟩ := three_heads (keep_block HBOX.out HK5.out)
      go_wp2_with (refine wpList_store_row rfl _ _ _ rfl Q #[.int .i64 0, .int .u32 0, .slice none 0 0] rfl rfl 25 _ HQB.out (Try.sizePn _ _ _) rfl (one3 _ _ _ _ _) ?_)
      refine (HWY.out _ HK5.out).mono ?_
      rintro e w6 ⟨E', rfl, hwhy', hb6⟩
      have hEE : E' = E := hwhy'.unique HWH.out
      subst hEE
      have HK6 := Lib.hid (HK5.out.trans (hb6.mono HK5.out.size))
      have HB56 := Lib.hid hb6
      clear hb6 hwhy' hw5 hw4 r0 r1 r2
      have hee : (E' == E') = true := by simp
      have hq6 := keep_block HQ5.out HB56.out
      obtain ⟨q0, q1, q2⟩ := three_heads hq6
      have HSZ := Lib.hid (refSame_any 0 0 (.slice none 0 0) [] 0 0 (.slice none 0 0) [] w6 (PlsIn.nil _ _) (PlsIn.nil _ _))
      rw [show sameB 0 0 [] 0 0 [] = true from rfl] at HSZ
      unfold planA at HSZ
      clear hq6
      go_wp2_with fail
      refine HSZ.out.mono ?_
      rintro e w66 ⟨rfl, hb66⟩
      have HK6 := Lib.hid (HK6.out.trans (hb66.mono HK6.out.size))
      clear hb66 q0 q1 q2
      go_wp2_with fail
      refine (HAW.out _).mono ?_
      rintro e w7 ⟨rfl, hb7⟩
      have HK7 := Lib.hid (HB1.out.trans ((HK6.out.trans (hb7.mono HK6.out.size)).mono HB1.out.size))
      clear hb7
      go_wp2_with fail
      go_ret
      exact ⟨rfl, HK7.out⟩
  · have HLN := Lib.hid (fun W hk => (HLI.out W hk).2 hlit)
    clear HLI hlit ho hi'
    go_enter Try.func3, Try.ntmps3
    go_wp2_with fail
    refine (HLN.out _ HK1.out).mono ?_
    rintro e w2 ⟨rfl, hb2⟩
    have HK2 := Lib.hid hb2
    clear hb2
    go_wp2_with fail
    refine (HAW.out _).mono ?_
    rintro e w3 ⟨rfl, hb3⟩
    have HK3 := Lib.hid (HB1.out.trans ((HK2.out.trans (hb3.mono HK2.out.size)).mono HB1.out.size))
    clear hb3
    go_wp2_with fail
    go_ret
    exact ⟨rfl, HK3.out⟩
end Go.Proofs.Ytajgebcaobknoaa

/-
  An argument that is a plan, opened: its frame, its cores, its places, each with its pieces.
  Conditions: the reading itself.
-/
set_option linter.unusedVariables false
namespace Go.Proofs.Ytajgebcaobknoaa
open Go.ChangeShapes Go.WideShapes Go.RowKit Go.Deep

theorem Try.ownKnob : ownKnob Try.prog.godebug = none := by kernel_rfl
theorem Try.laidOut : laidOutB Try.prog = true := by kernel_rfl
theorem Try.cellsInt : Try.prog.cellsOf 3 = 1 := by kernel_rfl
theorem Try.cellsU64 : Try.prog.cellsOf 49 = 1 := by kernel_rfl
theorem Try.cellsPcs : Try.prog.cellsOf 39 = 1 := by kernel_rfl
theorem Try.cellsPc : Try.prog.cellsOf 51 = 2 := by kernel_rfl
theorem Try.cellsPl : Try.prog.cellsOf 41 = 4 := by kernel_rfl
theorem Try.cellsPn : Try.prog.cellsOf 25 = 3 := by kernel_rfl

theorem cell_lt {w : World} {b o : Nat} {v : Value} (h : w.cell? ⟨b, o, none⟩ = some v) : b < w.heap.size := by
  rcases Nat.lt_or_ge b w.heap.size with h1 | h1
  · exact h1
  · simp [World.cell?, Array.getElem?_eq_none h1] at h
theorem bounds_i64 {n : Int} (h : (Lit.int .i64 n).wf = true) : -9223372036854775808 ≤ n ∧ n ≤ 9223372036854775807 := by
  have e1 : IntKind.i64.min = -9223372036854775808 := by decide +kernel
  have e2 : IntKind.i64.max = 9223372036854775807 := by decide +kernel
  simp [Lit.wf] at h
  omega
theorem nat_of_u64 {n : Int} (h : (Lit.int .u64 n).wf = true) : ∃ m : Nat, n = (m : Int) ∧ m < 18446744073709551616 := by
  have e1 : IntKind.u64.min = 0 := by decide +kernel
  have e2 : IntKind.u64.max = 18446744073709551615 := by decide +kernel
  simp [Lit.wf] at h
  exact ⟨n.toNat, by omega, by omega⟩
theorem nat_of_u32 {n : Int} (h : (Lit.int .u32 n).wf = true) : ∃ m : Nat, n = (m : Int) ∧ m < 4294967296 := by
  have e1 : IntKind.u32.min = 0 := by decide +kernel
  have e2 : IntKind.u32.max = 4294967295 := by decide +kernel
  simp [Lit.wf] at h
  exact ⟨n.toNat, by omega, by omega⟩
def numOf : Value → Int
  | .int _ q => q
  | _ => 0
theorem array3 {α : Type} {cs : Array α} (h : cs.size = 3) : ∃ c0 c1 c2, cs = #[c0, c1, c2] := by
  obtain ⟨l⟩ := cs
  match l, h with
  | [c0, c1, c2], _ => exact ⟨c0, c1, c2, rfl⟩
theorem list3 {α : Type} {xs : List α} (h : xs.length = 3) : ∃ c0 c1 c2, xs = [c0, c1, c2] := by
  match xs, h with
  | [c0, c1, c2], _ => exact ⟨c0, c1, c2, rfl⟩
theorem list4 {α : Type} {xs : List α} (h : xs.length = 4) : ∃ c0 c1 c2 c3, xs = [c0, c1, c2, c3] := by
  match xs, h with
  | [c0, c1, c2, c3], _ => exact ⟨c0, c1, c2, c3, rfl⟩

/-- A struct of three one-cell fields, by value, opened. -/
theorem open_three {H : Type} {enc : TypeId × Value → H} {P : Program} {w : World} {base : Nat} {spare : Nat → Bool} {held : Bool} {r : Reach} {b0 : Nat} {t : TypeId} {f0 f1 f2 : Field} {v : Value} {d : DataW H} {p : List MemPlace} (hs : P.underlying t = some (.struct #[f0, f1, f2]))
    (hone : Go.Deep.oneCellFields P #[f0, f1, f2] = true) (hC : P.cellsOf t = 3) (hv : Value.okWide P w r b0 t v) (h : DataW.Trod enc P w base spare held t v d p) :
    ∃ (v0 v1 v2 : Value) (y0 y1 y2 : DataW H × List MemPlace) (n : Nat), v = .agg #[v0, v1, v2] ∧
      DataW.trod enc P w base spare held n f0.type [v0] = some y0 ∧ DataW.trod enc P w base spare held n f1.type [v1] = some y1 ∧ DataW.trod enc P w base spare held n f2.type [v2] = some y2 := by
  obtain ⟨cs, rfl, hsz⟩ := okWide_struct hs hv
  obtain ⟨c0, c1, c2, rfl⟩ := array3 (hsz.trans hC)
  obtain ⟨fuel, hf⟩ := h
  obtain ⟨xs, n, _, _, _, hlen, hfld⟩ := DataW.trod_struct hs hf
  obtain ⟨y0, y1, y2, rfl⟩ := list3 hlen
  have g0 := hfld 0 f0 rfl
  obtain ⟨o0, k0⟩ := Go.Deep.hone_of hone 0 f0 rfl
  have g1 := hfld 1 f1 rfl
  obtain ⟨o1, k1⟩ := Go.Deep.hone_of hone 1 f1 rfl
  have g2 := hfld 2 f2 rfl
  obtain ⟨o2, k2⟩ := Go.Deep.hone_of hone 2 f2 rfl
  exact ⟨c0, c1, c2, y0, y1, y2, n, rfl, by simpa [Value.cells, o0, k0] using g0, by simpa [Value.cells, o1, k1] using g1, by simpa [Value.cells, o2, k2] using g2⟩

section
variable {H : Type} {enc : TypeId × Value → H} {W : World} {sp : Nat → Bool} {held : Bool}
theorem pcs_open {fuel : Nat} {sv : Value} {x : DataW H × List MemPlace} (h : DataW.trod enc Try.prog W 0 sp held fuel 39 [sv] = some x) : ∃ ps, PcsAt W sv ps ∧ ∀ y ∈ ps, PcOk y := by
  rcases open_slice_pairs Try.underlying39 Try.underlying51 Try.cellsPc rfl rfl Try.cellsInt Try.cellsU64 h with ⟨hcs, _⟩ | ⟨a, len, cap, m, n, V0, V1, D0, D1, P0, P1, hcs, _, hl, hm, hmm, _, hcell⟩
  · simp only [List.cons.injEq, and_true] at hcs
    subst hcs
    exact ⟨[], PcsIn.nil _ W, by intro s hs; cases hs⟩
  · simp only [List.cons.injEq, and_true] at hcs
    subst hcs
    have hlm : len ≤ m := by rw [hmm]; split <;> omega
    have hint : ∀ i, i < len → (V0 i = .int .i64 (numOf (V0 i)) ∧ Int64 (numOf (V0 i))) ∧ (V1 i = .int .u64 ((numOf (V1 i)).toNat : Nat) ∧ (numOf (V1 i)).toNat < 18446744073709551616) := by
      intro i hi
      obtain ⟨_, _, g0, g1⟩ := hcell i (by omega)
      obtain ⟨n0, e0, _, w0⟩ := DataW.trod_int Try.underlying3 g0
      obtain ⟨n1, e1, _, w1⟩ := DataW.trod_int Try.underlying49 g1
      obtain ⟨k1, rfl, hk1⟩ := nat_of_u64 w1
      simp only [List.cons.injEq, and_true] at e0 e1
      rw [e0, e1]
      exact ⟨⟨rfl, bounds_i64 w0⟩, by simp [numOf], by simpa [numOf] using hk1⟩
    have hn : ((List.range len).map fun i => (⟨numOf (V0 i), (numOf (V1 i)).toNat⟩ : Pc)).length = len := by simp
    refine ⟨(List.range len).map fun i => ⟨numOf (V0 i), (numOf (V1 i)).toNat⟩, ⟨some a, cap, by rw [hn], by rw [hn]; exact hl, by unfold maxLen at hm; omega, fun h0 => ?_⟩, fun s hs => ?_⟩
    · rw [hn] at h0
      obtain ⟨b, off, spot⟩ := a
      have hspot : spot = none := by simpa [Addr.add] using World.cell?_spot (hcell 0 (by omega)).1
      subst hspot
      refine ⟨b, off, rfl, cell_lt (by have := (hcell 0 (by omega)).1; simpa [Addr.add] using this), trivial, fun j p hp => ?_⟩
      have hj : j < len := by
        have := (List.getElem?_eq_some_iff.1 hp).1
        omega
      have hp' : p = ⟨numOf (V0 j), (numOf (V1 j)).toNat⟩ := by
        rw [List.getElem?_map, List.getElem?_range hj] at hp
        simpa using hp.symm
      subst hp'
      obtain ⟨q0, q1, _⟩ := hcell j (by omega)
      rw [add_plain] at q0 q1
      exact ⟨by rw [q0, ← (hint j hj).1.1], by rw [Nat.add_assoc, q1, ← (hint j hj).2.1]⟩
    · obtain ⟨i, hi, rfl⟩ := List.mem_map.1 hs
      have hi' : i < len := by simpa using hi
      exact ⟨(hint i hi').1.2, (hint i hi').2.2⟩
theorem place_of_cells {fuel : Nat} {cs : List Value} {x : DataW H × List MemPlace} (h : DataW.trod enc Try.prog W 0 sp held fuel 41 cs = some x) :
    ∃ p : Value × Pl, PlOk p.2 ∧ PcsAt W p.1 p.2.ps ∧ cs = [.int .i64 p.2.u, .int .i64 p.2.s, .int .i64 p.2.c, p.1] := by
  obtain ⟨xs, n, _, _, hlen, hxs, hf⟩ := DataW.trod_struct Try.underlying41 h
  rw [Try.cellsPl] at hlen
  obtain ⟨v0, v1, v2, v3, rfl⟩ := list4 hlen
  obtain ⟨x0, x1, x2, x3, rfl⟩ := list4 (show xs.length = 4 from hxs)
  have g0 : DataW.trod enc Try.prog W 0 sp held n 3 (([v0, v1, v2, v3].drop 0).take (Try.prog.cellsOf 3)) = some x0 := hf 0 _ rfl
  have g1 : DataW.trod enc Try.prog W 0 sp held n 3 (([v0, v1, v2, v3].drop 1).take (Try.prog.cellsOf 3)) = some x1 := hf 1 _ rfl
  have g2 : DataW.trod enc Try.prog W 0 sp held n 3 (([v0, v1, v2, v3].drop 2).take (Try.prog.cellsOf 3)) = some x2 := hf 2 _ rfl
  have g3 : DataW.trod enc Try.prog W 0 sp held n 39 (([v0, v1, v2, v3].drop 3).take (Try.prog.cellsOf 39)) = some x3 := hf 3 _ rfl
  rw [Try.cellsInt] at g0 g1 g2
  rw [Try.cellsPcs] at g3
  simp only [List.drop_succ_cons, List.drop_zero, List.take_succ_cons, List.take_zero] at g0 g1 g2 g3
  obtain ⟨n0, e0, _, w0⟩ := DataW.trod_int Try.underlying3 g0
  obtain ⟨n1, e1, _, w1⟩ := DataW.trod_int Try.underlying3 g1
  obtain ⟨n2, e2, _, w2⟩ := DataW.trod_int Try.underlying3 g2
  obtain ⟨ps, hx, hxo⟩ := pcs_open g3
  simp only [List.cons.injEq, and_true] at e0 e1 e2
  exact ⟨(v3, ⟨n0, n1, n2, ps⟩), ⟨bounds_i64 w0, bounds_i64 w1, bounds_i64 w2, hxo⟩, hx, by rw [e0, e1, e2]⟩
instance : Inhabited (Value × Pl) := ⟨(undef, default)⟩
theorem pls_open {fuel : Nat} {sv : Value} {x : DataW H × List MemPlace} (h : DataW.trod enc Try.prog W 0 sp held fuel 23 [sv] = some x) :
    ∃ l : List Pl, PlsAt W sv l ∧ ∀ x ∈ l, PlOk x := by
  rcases open_slice Try.underlying23 h with ⟨h1, _⟩ | ⟨a, len, cap, m, n, D, Pm, h1, _, hl, hm, hmm, _, hi⟩
  · simp only [List.cons.injEq, and_true] at h1
    subst h1
    exact ⟨[], PlsIn.nil _ W, fun a ha => by cases ha⟩
  · simp only [List.cons.injEq, and_true] at h1
    subst h1
    have hlm : len ≤ m := by rw [hmm]; split <;> omega
    have key : ∀ i, i < len → ∃ x : Value × Pl, (PlOk x.2 ∧ PcsAt W x.1 x.2.ps) ∧ W.cell? (a.add (i * 4 + 0)) = some (.int .i64 x.2.u) ∧ W.cell? (a.add (i * 4 + 1)) = some (.int .i64 x.2.s) ∧ W.cell? (a.add (i * 4 + 2)) = some (.int .i64 x.2.c) ∧ W.cell? (a.add (i * 4 + 3)) = some x.1 := by
      intro i hlt
      obtain ⟨cs', hc, ht⟩ := hi i (by omega)
      rw [Try.cellsPl] at hc
      obtain ⟨x, hok, hx, rfl⟩ := place_of_cells ht
      obtain ⟨_, _, hat⟩ := World.cells?_some hc
      refine ⟨x, ⟨hok, hx⟩, ?_, ?_, ?_, ?_⟩
      · rw [← Go.Deep.add_add, hat 0 (by decide)]; rfl
      · rw [← Go.Deep.add_add, hat 1 (by decide)]; rfl
      · rw [← Go.Deep.add_add, hat 2 (by decide)]; rfl
      · rw [← Go.Deep.add_add, hat 3 (by decide)]; rfl
    obtain ⟨f, hf⟩ := choose_lt key
    have hn : ((List.range len).map f).length = len := by simp
    refine ⟨plsOf ((List.range len).map f), ⟨(List.range len).map f, rfl, some a, cap, by rw [hn], by rw [hn]; exact hl, by unfold maxLen at hm; omega, fun h0 => ?_, ?_⟩, ?_⟩
    · rw [hn] at h0
      obtain ⟨b, off, spot⟩ := a
      have hspot : spot = none := by simpa [Addr.add] using World.cell?_spot (hf 0 (by omega)).2.1
      subst hspot
      refine ⟨b, off, rfl, cell_lt (by have := (hf 0 (by omega)).2.1; simpa [Addr.add] using this), trivial, fun j p hp => ?_⟩
      have hj : j < len := by
        have := (List.getElem?_eq_some_iff.1 hp).1
        omega
      have hp' : p = f j := by
        rw [List.getElem?_map, List.getElem?_range hj] at hp
        simpa using hp.symm
      subst hp'
      obtain ⟨_, c0, c1, c2, c3⟩ := hf j hj
      rw [add_plain] at c0 c1 c2 c3
      simp only [← Nat.add_assoc, Nat.add_zero] at c0 c1 c2 c3
      exact ⟨c0, c1, c2, c3⟩
    · intro x hx
      obtain ⟨i, hi', rfl⟩ := List.mem_map.1 hx
      exact (hf i (List.mem_range.1 hi')).1.2
    · intro x hx
      obtain ⟨p, hp, rfl⟩ := List.mem_map.1 hx
      obtain ⟨i, hi', rfl⟩ := List.mem_map.1 hp
      exact (hf i (List.mem_range.1 hi')).1.1
set_option maxRecDepth 100000 in
theorem plan_open {r : Reach} {b0 : Nat} {v : Value} {d : DataW H} {p : List MemPlace}
    (hv : Value.okWide Try.prog W r b0 25 v) (h : DataW.Trod enc Try.prog W 0 sp held 25 v d p) : ∃ (f : Int) (m : Nat) (u : Value) (l : List Pl), v = planA f m u ∧ PlsAt W u l ∧ (∀ x ∈ l, PlOk x) ∧ m < 4294967296 ∧ Int64 f := by
  obtain ⟨v0, v1, v2, y0, y1, y2, n, rfl, g0, g1, g2⟩ := open_three Try.underlying25 (by kernel_rfl) Try.cellsPn hv h
  obtain ⟨n0, e0, _, w0⟩ := DataW.trod_int Try.underlying3 g0
  obtain ⟨n1, e1, _, w1⟩ := DataW.trod_int Try.underlying22 g1
  obtain ⟨k1, rfl, hk1⟩ := nat_of_u32 w1
  obtain ⟨l, hl, ho⟩ := pls_open g2
  simp only [List.cons.injEq, and_true] at e0 e1
  subst e0 e1
  exact ⟨n0, k1, v2, l, rfl, hl, ho, hk1, bounds_i64 w0⟩
end
end Go.Proofs.Ytajgebcaobknoaa

/-
  An argument that is a slice of wants, opened: the pairs of ints that it reads as.
  Conditions: the reading itself.
-/
set_option linter.unusedVariables false
namespace Go.Proofs.Ytajgebcaobknoaa
open Go.ChangeShapes Go.WideShapes Go.RowKit Go.Deep

theorem Try.cellsWant : Try.prog.cellsOf 45 = 2 := by kernel_rfl
theorem wants_open {H : Type} {enc : TypeId × Value → H} {W : World} {sp : Nat → Bool} {held : Bool} {fuel : Nat} {sv : Value} {x : DataW H × List MemPlace}
    (h : DataW.trod enc Try.prog W 0 sp held fuel 26 [sv] = some x) : ∃ ps, ArgAt W sv ps ∧ IntsS ps := by
  rcases open_slice_pairs Try.underlying26 Try.underlying45 Try.cellsWant rfl rfl Try.cellsInt Try.cellsInt h with ⟨hcs, _⟩ | ⟨a, len, cap, m, n, V0, V1, D0, D1, P0, P1, hcs, _, hl, hm, hmm, _, hcell⟩
  · simp only [List.cons.injEq, and_true] at hcs
    subst hcs
    exact ⟨[], ⟨none, 0, rfl, Nat.le_refl _, by simp, fun _ => rfl, fun h => absurd h (by simp)⟩, by intro s hs; cases hs⟩
  · simp only [List.cons.injEq, and_true] at hcs
    subst hcs
    have hlm : len ≤ m := by rw [hmm]; split <;> omega
    have hint : ∀ i, i < len → (V0 i = .int .i64 (numOf (V0 i)) ∧ -9223372036854775808 ≤ numOf (V0 i) ∧ numOf (V0 i) ≤ 9223372036854775807) ∧ (V1 i = .int .i64 (numOf (V1 i)) ∧ -9223372036854775808 ≤ numOf (V1 i) ∧ numOf (V1 i) ≤ 9223372036854775807) := by
      intro i hi
      obtain ⟨_, _, g0, g1⟩ := hcell i (by omega)
      obtain ⟨n0, e0, _, w0⟩ := DataW.trod_int Try.underlying3 g0
      obtain ⟨n1, e1, _, w1⟩ := DataW.trod_int Try.underlying3 g1
      simp only [List.cons.injEq, and_true] at e0 e1
      rw [e0, e1]
      exact ⟨⟨rfl, bounds_i64 w0⟩, rfl, bounds_i64 w1⟩
    have hn : ((List.range len).map fun i => (numOf (V0 i), numOf (V1 i))).length = len := by simp
    refine ⟨(List.range len).map fun i => (numOf (V0 i), numOf (V1 i)), ⟨some a, cap, by rw [hn], by rw [hn]; exact hl, by unfold maxLen at hm; omega, (fun h => by cases h), fun h0 => ?_⟩, fun s hs => ?_⟩
    · rw [hn] at h0
      obtain ⟨b, off, spot⟩ := a
      have hspot : spot = none := by simpa [Addr.add] using World.cell?_spot (hcell 0 (by omega)).1
      subst hspot
      refine ⟨b, off, rfl, cell_lt (by have := (hcell 0 (by omega)).1; simpa [Addr.add] using this), fun j p hp => ?_⟩
      have hj : j < len := by
        have := (List.getElem?_eq_some_iff.1 hp).1
        omega
      have hp' : p = (numOf (V0 j), numOf (V1 j)) := by
        rw [List.getElem?_map, List.getElem?_range hj] at hp
        simpa using hp.symm
      subst hp'
      obtain ⟨q0, q1, _⟩ := hcell j (by omega)
      rw [add_plain] at q0 q1
      exact ⟨by rw [q0, ← (hint j hj).1.1], by rw [Nat.add_assoc, q1, ← (hint j hj).2.1]⟩
    · obtain ⟨i, hi, rfl⟩ := List.mem_map.1 hs
      have hi' : i < len := by simpa using hi
      exact ⟨(hint i hi').1.2, (hint i hi').2.2⟩
end Go.Proofs.Ytajgebcaobknoaa
