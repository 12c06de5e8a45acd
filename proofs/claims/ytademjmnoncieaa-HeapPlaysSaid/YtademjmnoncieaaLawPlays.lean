/-
  The law HeapPlays.
  Conditions: what the argument reads as.
-/
import Derived.Test.YtademjmnoncieaaPlay
import Derived.Deep.Cut
import Derived.Deep.CutRange
set_option linter.unusedVariables false
namespace Go.Proofs.Ytademjmnoncieaa
open Go.RowKit

set_option maxRecDepth 100000 in
set_option maxHeartbeats 4000000 in
theorem plays_bad (n ask : Int) (v : Value) (W : World) (h : n < 1 ∨ 1024 < n) : Calls Try.prog 3 #[.int .i64 n, v, .int .i64 ask] W (Ans W) := by
  have HN := Lib.hid (new_bad W n h)
  by_cases h1 : n < 1
  · clear h
    go_enter Try.func3, Try.ntmps3
    go_wp2_with fail
    refine HN.out.mono ?_
    rintro e w ⟨rfl, rfl⟩
    go_wp2_with fail
    refine (awake_any W).mono ?_
    rintro e w4 ⟨rfl, h4⟩
    go_wp2_with fail
    go_ret
    exact ⟨rfl, h4⟩
  · have z1 : decide (n < 1) = false := decide_eq_false h1
    have z2 : 1024 < n := by omega
    clear h
    go_enter Try.func3, Try.ntmps3
    go_wp2_with fail
    refine HN.out.mono ?_
    rintro e w ⟨rfl, rfl⟩
    go_wp2_with fail
    refine (awake_any W).mono ?_
    rintro e w4 ⟨rfl, h4⟩
    go_wp2_with fail
    go_ret
    exact ⟨rfl, h4⟩

/-- Behind a call: heap and list go on together. -/
def MidRel (n B : Nat) (W0 : World) (hb kb k : Nat) (s9 : Value) (wr : World) : Prop :=
  ∃ (lv : Value) (s : Hs) (its : List It), Held B W0 wr hb kb lv s ∧ s.n = n ∧ s.m ≤ k + 1 ∧ Agree s its ∧ Side wr hb kb lv s9 its

set_option maxRecDepth 100000 in
set_option maxHeartbeats 64000000 in
theorem plays_good (nn : Nat) (ask : Int) (v : Value) (l : List ActH) (W : World) (h : ActsAt W v l) (hok : ∀ a ∈ l, ActOk a) (hn0 : 0 < nn) (hn1 : nn ≤ 1024) :
    Calls Try.prog 3 #[.int .i64 nn, v, .int .i64 ask] W (Ans W) := by
  have HNEW := Lib.hid (new_ok W nn hn0 hn1)
  obtain ⟨A, c, rfl, hl, hat⟩ := h
  have HAT := Lib.hid hat
  have HOK := Lib.hid hok
  obtain ⟨len, hlen⟩ : ∃ n, l.length = n := ⟨_, rfl⟩
  have HLEN := Lib.hid hlen
  rw [hlen] at hl ⊢
  obtain ⟨N, hN⟩ : ∃ N, min len 60 = N := ⟨_, rfl⟩
  have HNN := Lib.hid hN
  have hN60 : N ≤ 60 := by omega
  have z1 : ¬ (nn : Int) < 1 := by omega
  have z2 : ¬ (1024 : Int) < (nn : Int) := by omega
  have z3 : decide ((nn : Int) < 1) = false := decide_eq_false z1
  have z4 : decide ((1024 : Int) < (nn : Int)) = false := decide_eq_false z2
  clear hat hok hlen hN
  go_enter Try.func3, Try.ntmps3
  go_wp2_with fail
  refine HNEW.out.mono ?_
  rintro e w1 hnew
  have K0 := Lib.hid (Held.new (W0 := W) (Below.refl W.heap.size W) (Nat.le_refl _) hnew)
  obtain ⟨rfl, _, _⟩ := hnew
  obtain ⟨hb, hhb⟩ : ∃ hb, W.heap.size + 1 = hb := ⟨_, rfl⟩
  obtain ⟨B, hB⟩ : ∃ B, W.heap.size = B := ⟨_, rfl⟩
  rw [hhb] at K0 ⊢
  have K0 := Lib.hid (show Held B W w1 hb B (.slice none 0 0) (emptyS nn) by have := K0.out; rwa [hB] at this)
  have HBE := Lib.hid hB
  clear hhb hB HNEW
  go_wp2_with fail
  go_loopg [9, 10] N (fun g s9 s10 wr => PlayRel nn B W hb B l N g s9 s10 wr)
  case atStart => exact ⟨0, _, _, [], Nat.zero_le _, rfl, rfl, K0.out, rfl, Nat.zero_le _, agree_empty nn, Side.nil _ _ _ _⟩
  case round =>
    obtain ⟨k, lv, s, its, hk, hg, rfl, hheld, hsn, hsm, hagr, hside⟩ := hrel
    have HG := Lib.hid hg
    have K := Lib.hid hheld
    have HSN := Lib.hid hsn
    have HSM := Lib.hid hsm
    have A := Lib.hid hagr
    have S := Lib.hid hside
    clear hg hheld hsn hsm hagr hside K0
    by_cases hlt : k < N
    · have y1 : (k : Int) < (len : Int) := by have := HNN.out; omega
      have y2 : (k : Int) < 60 := by omega
      obtain ⟨ab, off, hA0, hbl, hcell⟩ := HAT.out (by rw [HLEN.out]; omega)
      subst hA0
      obtain ⟨a, ha⟩ := ex_at6 (xs := l) (k := k) (by rw [HLEN.out]; omega)
      have HA := Lib.hid (HOK.out a (List.mem_of_getElem? ha))
      obtain ⟨hc0, hc1, hc2, hc3⟩ := (hcell k a ha).keep (K.out.bel.mono (by rw [HBE.out]; exact Nat.le_refl _)) hbl
      obtain ⟨kind, id, nu, de⟩ := a
      simp only at hc0 hc1 hc2 hc3
      clear hcell ha
      have HE := Lib.hid (show Below wr.heap.size wr (wr.alloc (.cells #[.int .i64 kind, .int .i64 id, .int .u64 nu, .int .u64 de] 31)) from (Below.refl _ _).alloc (Nat.le_refl _) _)
      have HV := Lib.hid (show ActVar (wr.alloc (.cells #[.int .i64 kind, .int .i64 id, .int .u64 nu, .int .u64 de] 31)) wr.heap.size (kind, id, nu, de) from heap_alloc_new wr _)
      go_upto_region 11 with fail
      generalize hw1 : wr.alloc (Obj.cells #[Value.int IntKind.i64 kind, Value.int IntKind.i64 id, Value.int IntKind.u64 ↑nu, Value.int IntKind.u64 ↑de] 31) = w1 at HE HV
      have KA := Lib.hid (K.out.below HE.out)
      have SA := Lib.hid (S.out.below HE.out)
      obtain ⟨g0, g1, g2, g3⟩ := HV.out.cells
      simp only at g0 g1 g2 g3
      have HML := Lib.hid (show its.length ≤ 60 by rw [A.out.len]; have := HSM.out; omega)
      clear hw1 hc0 hc1 hc2 hc3
      iterate 10 go_step
      go_cut [9] from 56 to 215 (fun s9 wx => MidRel nn B W hb B k s9 wx)
      case first =>
        by_cases k0 : kind = 0
        · subst k0
          as_aux_lemma =>
            by_cases i0 : 0 ≤ id
            · by_cases i1 : id < (nn : Int)
              · by_cases i2 : 0 < de
                · obtain ⟨x, rfl⟩ : ∃ x : Nat, id = x := ⟨id.toNat, by omega⟩
                  have hx : x < s.n := by rw [HSN.out]; omega
                  have HX := Lib.hid hx
                  have i3 : (0 : Int) < (de : Int) := by omega
                  have HI2 := Lib.hid i2
                  clear hx
                  have R1 := Lib.hid (refPut_any its x nu de _ w1 SA.out.1 (by have := HML.out; omega))
                  go_wp2_with fail
                  refine R1.out.mono ?_
                  rintro e w2 ⟨v2, rfl, ho2, hb2⟩
                  have K2 := Lib.hid (KA.out.below hb2)
                  have hdl := dropI_length its (x : Int)
                  have S2 := Lib.hid (Side.made KA.out.lies ho2 hb2 (by rw [List.length_append]; have := HML.out; simp; omega))
                  clear g0 g1 g2 g3
                  obtain ⟨g0, g1, g2, g3⟩ := (HV.out.keep hb2).cells
                  have P1 := Lib.hid (put_ok w2 hb B lv s x nu de K2.out.lies K2.out.ok HX.out HI2.out HA.out.2.2.1 HA.out.2.2.2 (by have := HSM.out; omega))
                  simp only at g0 g1 g2 g3
                  simp only [id_eq]
                  clear ho2 hb2 hdl R1 i2
                  go_wp2_with fail
                  refine P1.out.mono ?_
                  rintro e w3 hm3
                  obtain ⟨lv3, s3, rfl, hh3, hc3, ha3, hg3⟩ := K2.out.mut hm3
                  have K3 := Lib.hid hh3
                  have A3 := Lib.hid (A.out.put hc3 HX.out HI2.out)
                  have S3 := Lib.hid (S2.out.mut ha3 hg3)
                  have HN3 := Lib.hid (hc3.1.trans HSN.out)
                  have HM3 := Lib.hid (show s3.m ≤ k + 1 by have h1 := hc3.2.1; have h2 := HSM.out; split at h1 <;> omega)
                  clear hm3 hh3 hc3 ha3 hg3 P1 K2 S2 KA SA g0 g1 g2 g3
                  go_wp2_with fail
                  go_meet
                  case rel => exact ⟨lv3, s3, _, K3.out, HN3.out, HM3.out, A3.out, S3.out⟩
                · have i3 : de = 0 := by omega
                  subst i3
                  have P1 := Lib.hid (put_bad w1 hb B lv s id nu 0 KA.out.lies (by rw [HSN.out]; omega))
                  go_wp2_with fail
                  refine P1.out.mono ?_
                  rintro e w ⟨rfl, rfl⟩
                  go_wp2_with fail
                  go_meet
                  case rel => exact ⟨lv, s, its, KA.out, HSN.out, Nat.le_trans HSM.out (Nat.le_succ k), A.out, SA.out⟩
              · have i3 : decide (id < (nn : Int)) = false := decide_eq_false i1
                have P1 := Lib.hid (put_bad w1 hb B lv s id nu de KA.out.lies (by rw [HSN.out]; omega))
                go_wp2_with fail
                refine P1.out.mono ?_
                rintro e w ⟨rfl, rfl⟩
                go_wp2_with fail
                go_meet
                case rel => exact ⟨lv, s, its, KA.out, HSN.out, Nat.le_trans HSM.out (Nat.le_succ k), A.out, SA.out⟩
            · have i3 : decide (0 ≤ id) = false := decide_eq_false i0
              have P1 := Lib.hid (put_bad w1 hb B lv s id nu de KA.out.lies (by rw [HSN.out]; omega))
              go_wp2_with fail
              refine P1.out.mono ?_
              rintro e w ⟨rfl, rfl⟩
              go_wp2_with fail
              go_meet
              case rel => exact ⟨lv, s, its, KA.out, HSN.out, Nat.le_trans HSM.out (Nat.le_succ k), A.out, SA.out⟩
        · by_cases k1 : kind = 1
          · subst k1
            as_aux_lemma =>
              by_cases i0 : 0 ≤ id
              · by_cases i1 : id < (nn : Int)
                · by_cases i2 : 0 < de
                  · obtain ⟨x, rfl⟩ : ∃ x : Nat, id = x := ⟨id.toNat, by omega⟩
                    have hx : x < s.n := by rw [HSN.out]; omega
                    have HX := Lib.hid hx
                    have i3 : (0 : Int) < (de : Int) := by omega
                    have HI2 := Lib.hid i2
                    clear hx
                    have R1 := Lib.hid (refPut_any its x nu de _ w1 SA.out.1 (by have := HML.out; omega))
                    go_wp2_with fail
                    refine R1.out.mono ?_
                    rintro e w2 ⟨v2, rfl, ho2, hb2⟩
                    have K2 := Lib.hid (KA.out.below hb2)
                    have hdl := dropI_length its (x : Int)
                    have S2 := Lib.hid (Side.made KA.out.lies ho2 hb2 (by rw [List.length_append]; have := HML.out; simp; omega))
                    clear g0 g1 g2 g3
                    obtain ⟨g0, g1, g2, g3⟩ := (HV.out.keep hb2).cells
                    have P1 := Lib.hid (put_ok w2 hb B lv s x nu de K2.out.lies K2.out.ok HX.out HI2.out HA.out.2.2.1 HA.out.2.2.2 (by have := HSM.out; omega))
                    simp only at g0 g1 g2 g3
                    simp only [id_eq]
                    clear ho2 hb2 hdl R1 i2
                    go_wp2_with fail
                    refine P1.out.mono ?_
                    rintro e w3 hm3
                    obtain ⟨lv3, s3, rfl, hh3, hc3, ha3, hg3⟩ := K2.out.mut hm3
                    have K3 := Lib.hid hh3
                    have A3 := Lib.hid (A.out.put hc3 HX.out HI2.out)
                    have S3 := Lib.hid (S2.out.mut ha3 hg3)
                    have HN3 := Lib.hid (hc3.1.trans HSN.out)
                    have HM3 := Lib.hid (show s3.m ≤ k + 1 by have h1 := hc3.2.1; have h2 := HSM.out; split at h1 <;> omega)
                    clear hm3 hh3 hc3 ha3 hg3 P1 K2 S2 KA SA g0 g1 g2 g3
                    go_wp2_with fail
                    go_meet
                    case rel => exact ⟨lv3, s3, _, K3.out, HN3.out, HM3.out, A3.out, S3.out⟩
                  · have i3 : de = 0 := by omega
                    subst i3
                    have P1 := Lib.hid (put_bad w1 hb B lv s id nu 0 KA.out.lies (by rw [HSN.out]; omega))
                    go_wp2_with fail
                    refine P1.out.mono ?_
                    rintro e w ⟨rfl, rfl⟩
                    go_wp2_with fail
                    go_meet
                    case rel => exact ⟨lv, s, its, KA.out, HSN.out, Nat.le_trans HSM.out (Nat.le_succ k), A.out, SA.out⟩
                · have i3 : decide (id < (nn : Int)) = false := decide_eq_false i1
                  have P1 := Lib.hid (put_bad w1 hb B lv s id nu de KA.out.lies (by rw [HSN.out]; omega))
                  go_wp2_with fail
                  refine P1.out.mono ?_
                  rintro e w ⟨rfl, rfl⟩
                  go_wp2_with fail
                  go_meet
                  case rel => exact ⟨lv, s, its, KA.out, HSN.out, Nat.le_trans HSM.out (Nat.le_succ k), A.out, SA.out⟩
              · have i3 : decide (0 ≤ id) = false := decide_eq_false i0
                have P1 := Lib.hid (put_bad w1 hb B lv s id nu de KA.out.lies (by rw [HSN.out]; omega))
                go_wp2_with fail
                refine P1.out.mono ?_
                rintro e w ⟨rfl, rfl⟩
                go_wp2_with fail
                go_meet
                case rel => exact ⟨lv, s, its, KA.out, HSN.out, Nat.le_trans HSM.out (Nat.le_succ k), A.out, SA.out⟩
          · by_cases k2 : kind = 2
            · subst k2
              as_aux_lemma =>
                have r1 := refRemove_any its id _ w1 SA.out.1
                simp only [A.out.had id] at r1
                obtain ⟨hk0, hhk⟩ : ∃ b, hasKey s id = b := ⟨_, rfl⟩
                have HHK := Lib.hid hhk
                rw [hhk] at r1
                have R1 := Lib.hid r1
                clear r1 hhk
                go_wp2_with fail
                refine R1.out.mono ?_
                rintro e w2 ⟨v2, rfl, ho2, hb2⟩
                have K2 := Lib.hid (KA.out.below hb2)
                have hdl := dropI_length its id
                have S2 := Lib.hid (Side.made KA.out.lies ho2 hb2 (by have := HML.out; omega))
                clear g0 g1 g2 g3
                obtain ⟨g0, g1, g2, g3⟩ := (HV.out.keep hb2).cells
                have p1 := remove_any w2 hb B lv s id K2.out.lies K2.out.ok
                rw [HHK.out] at p1
                have P1 := Lib.hid p1
                simp only at g0 g1 g2 g3
                clear ho2 hb2 hdl R1 p1
                go_wp2_with fail
                refine P1.out.mono ?_
                rintro e w3 hm3
                obtain ⟨lv3, s3, rfl, hh3, hc3, ha3, hg3⟩ := K2.out.mut hm3
                have K3 := Lib.hid hh3
                have A3 := Lib.hid (A.out.rem hc3).1
                have S3 := Lib.hid (S2.out.mut ha3 hg3)
                have HN3 := Lib.hid (show s3.n = nn by unfold RemC at hc3; split at hc3; exact hc3.1.trans HSN.out; rw [hc3]; exact HSN.out)
                have HM3 := Lib.hid (show s3.m ≤ k + 1 by have h2 := HSM.out; unfold RemC at hc3; split at hc3; (have := hc3.2.1; omega); (rw [hc3]; omega))
                clear hm3 hh3 hc3 ha3 hg3 P1 K2 S2 KA SA g0 g1 g2 g3
                go_wp2_with fail
                go_meet
                case rel => exact ⟨lv3, s3, _, K3.out, HN3.out, HM3.out, A3.out, S3.out⟩
            · by_cases k3 : kind = 3
              · subst k3
                as_aux_lemma =>
                  have r0 := refMin_any its _ w1 SA.out.1 (A.out.good KA.out.lies)
                  have pp := fun w (hh : HeapAt w hb B lv s) => pop_any w hb B lv s hh KA.out.ok
                  simp only [(A.out.min KA.out.ok).1] at pp
                  have APOP := Lib.hid (fun s3 (hc : PopC s s3) => A.out.pop KA.out.ok hc)
                  obtain ⟨⟨p1, p2⟩, hp⟩ : ∃ p, minP its = p := ⟨_, rfl⟩
                  rw [hp] at r0
                  simp only [hp] at pp APOP
                  have R0 := Lib.hid (show Calls Try.prog _ _ _ (RetB6 (.tuple #[.int .i64 p1, .bool p2]) _) from r0)
                  have PP := Lib.hid (show ∀ w (hh : HeapAt w hb B lv s), Calls Try.prog _ _ _ (MutPost w hb B lv (.tuple #[.int .i64 p1, .bool p2]) (PopC s)) from pp)
                  clear r0 pp hp
                  go_wp2_with fail
                  refine R0.out.mono ?_
                  rintro e w2 ⟨rfl, hb2⟩
                  have K2 := Lib.hid (KA.out.below hb2)
                  have S2 := Lib.hid (SA.out.below hb2)
                  clear hb2 R0 g0 g1 g2 g3
                  cases p2 with
                  | true =>
                    have R1 := Lib.hid (refRemove_any its p1 _ w2 S2.out.1)
                    go_wp2_with fail
                    refine R1.out.mono ?_
                    rintro e w4 ⟨v2, rfl, ho2, hb2⟩
                    have K4 := Lib.hid (K2.out.below hb2)
                    have hdl := dropI_length its p1
                    have S4 := Lib.hid (Side.made K2.out.lies ho2 hb2 (by have := HML.out; omega))
                    have P1 := Lib.hid (PP.out w4 K4.out.lies)
                    clear ho2 hb2 hdl R1
                    go_wp2_with fail
                    refine P1.out.mono ?_
                    rintro e w5 hm3
                    obtain ⟨lv3, s3, rfl, hh3, hc3, ha3, hg3⟩ := K4.out.mut hm3
                    have K3 := Lib.hid hh3
                    have a3 := APOP.out s3 hc3
                    have S3 := Lib.hid (S4.out.mut ha3 hg3)
                    have HN3 := Lib.hid (show s3.n = nn by unfold PopC at hc3; split at hc3; (rw [hc3]; exact HSN.out); exact hc3.1.trans HSN.out)
                    have HM3 := Lib.hid (show s3.m ≤ k + 1 by have h2 := HSM.out; unfold PopC at hc3; split at hc3; (rw [hc3]; omega); (have := hc3.2.1; omega))
                    have A3 := Lib.hid (show Agree s3 (dropI its p1) from a3)
                    clear hm3 hh3 hc3 ha3 hg3 P1 K2 S2 K4 S4 KA SA a3 APOP PP
                    go_wp2_with fail
                    go_meet
                    case rel => exact ⟨lv3, s3, _, K3.out, HN3.out, HM3.out, A3.out, S3.out⟩
                  | false =>
                    have P1 := Lib.hid (PP.out w2 K2.out.lies)
                    go_wp2_with fail
                    refine P1.out.mono ?_
                    rintro e w5 hm3
                    obtain ⟨lv3, s3, rfl, hh3, hc3, ha3, hg3⟩ := K2.out.mut hm3
                    have K3 := Lib.hid hh3
                    have a3 := APOP.out s3 hc3
                    have S3 := Lib.hid (S2.out.mut ha3 hg3)
                    have HN3 := Lib.hid (show s3.n = nn by unfold PopC at hc3; split at hc3; (rw [hc3]; exact HSN.out); exact hc3.1.trans HSN.out)
                    have HM3 := Lib.hid (show s3.m ≤ k + 1 by have h2 := HSM.out; unfold PopC at hc3; split at hc3; (rw [hc3]; omega); (have := hc3.2.1; omega))
                    have A3 := Lib.hid (show Agree s3 its from a3)
                    clear hm3 hh3 hc3 ha3 hg3 P1 K2 S2 KA SA a3 APOP PP
                    go_wp2_with fail
                    go_meet
                    case rel => exact ⟨lv3, s3, _, K3.out, HN3.out, HM3.out, A3.out, S3.out⟩
              · as_aux_lemma =>
                  have k4 : (kind == 0) = false := by simp; exact k0
                  have k5 : (kind == 1) = false := by simp; exact k1
                  have k6 : (kind == 2) = false := by simp; exact k2
                  have k7 : (kind == 3) = false := by simp; exact k3
                  go_wp2_with fail
                  go_meet
                  case rel => exact ⟨lv, s, its, KA.out, HSN.out, Nat.le_trans HSM.out (Nat.le_succ k), A.out, SA.out⟩
      case rest =>
        as_aux_lemma =>
          clear K A S KA SA HSN HSM HE HV HML g0 g1 g2 g3
          obtain ⟨lv, s, its, hh, hn3, hm3, ha3, hs3⟩ := hcut
          have K3 := Lib.hid hh
          have HN3 := Lib.hid hn3
          have HM3 := Lib.hid hm3
          have A3 := Lib.hid ha3
          have S3 := Lib.hid hs3
          clear hh hn3 hm3 ha3 hs3
          obtain ⟨T0, c0, rfl⟩ := S3.out.1.form
          have t1 := min_any wc hb B lv s K3.out.lies
          rw [(A3.out.min K3.out.ok).1] at t1
          have t2 := refMin_any its _ wc S3.out.1 (A3.out.good K3.out.lies)
          obtain ⟨⟨p1, p2⟩, hp⟩ : ∃ p, minP its = p := ⟨_, rfl⟩
          rw [hp] at t1 t2
          have T1 := Lib.hid (show Calls Try.prog _ _ _ (Ret6 (.tuple #[.int .i64 p1, .bool p2]) _) from t1)
          have T2 := Lib.hid (show Calls Try.prog _ _ _ (RetB6 (.tuple #[.int .i64 p1, .bool p2]) _) from t2)
          obtain ⟨⟨q1, q2, q3⟩, hq⟩ : ∃ q, keyP its ask = q := ⟨_, rfl⟩
          have HQ := Lib.hid hq
          clear t1 t2 hp hq
          go_wp2_with fail
          refine T1.out.mono ?_
          rintro e w ⟨rfl, rfl⟩
          go_wp2_with fail
          refine T2.out.mono ?_
          rintro e wB ⟨rfl, hB1⟩
          have KB := Lib.hid (K3.out.below hB1)
          have SB := Lib.hid (S3.out.below hB1)
          have t3 := key_any wB hb B lv s ask KB.out.lies
          rw [A3.out.key ask, HQ.out] at t3
          have T3 := Lib.hid (show Calls Try.prog _ _ _ (RetB6 (.tuple #[.int .u64 q1, .int .u64 q2, .bool q3]) _) from t3)
          clear t3 hB1 T1 T2
          go_wp2_with fail
          refine T3.out.mono ?_
          rintro e wC ⟨rfl, hC1⟩
          have KC := Lib.hid (KB.out.below hC1)
          have SC := Lib.hid (SB.out.below hC1)
          have t4 := refKey_any its ask _ wC SC.out.1
          rw [HQ.out] at t4
          have T4 := Lib.hid (show Calls Try.prog _ _ _ (RetB6 (.tuple #[.int .u64 q1, .int .u64 q2, .bool q3]) _) from t4)
          clear t4 hC1 T3 KB SB
          go_wp2_with fail
          refine T4.out.mono ?_
          rintro e wD ⟨rfl, hD1⟩
          have KD := Lib.hid (KC.out.below hD1)
          have SD := Lib.hid (SC.out.below hD1)
          have t5 := len_any wD hb B lv s KD.out.lies
          rw [← A3.out.len] at t5
          have T5 := Lib.hid t5
          clear t5 hD1 T4 KC SC
          generalize hml : its.length = ml at T5 ⊢
          have HML := Lib.hid hml
          clear hml
          go_wp2_with fail
          refine T5.out.mono ?_
          rintro e w ⟨rfl, rfl⟩
          go_wp2_with fail
          go_roundg (N - (k + 1))
          case measure => have := HG.out; omega
          case rel => exact ⟨k + 1, lv, s, its, by omega, rfl, by go_num, KD.out, HN3.out, HM3.out, A3.out, by rw [← HML.out] at *; exact SD.out⟩
    · have hk2 : k = N := by omega
      have y1 : (len : Int) ≤ (k : Int) ∨ (60 : Int) ≤ (k : Int) := by have := HNN.out; omega
      by_cases y2 : (k : Int) < (len : Int)
      · have y3 : decide ((k : Int) < 60) = false := decide_eq_false (by omega)
        have y4 : ¬ (k : Int) < 60 := by omega
        clear y1
        go_wp2_with fail
        refine (awake_any wr).mono ?_
        rintro e w4 ⟨rfl, h4⟩
        go_wp2_with fail
        go_ret
        exact ⟨rfl, by rw [HBE.out]; exact (K.out.below h4).bel⟩
      · have y3 : decide ((k : Int) < (len : Int)) = false := decide_eq_false y2
        clear y1
        go_wp2_with fail
        refine (awake_any wr).mono ?_
        rintro e w4 ⟨rfl, h4⟩
        go_wp2_with fail
        go_ret
        exact ⟨rfl, by rw [HBE.out]; exact (K.out.below h4).bel⟩

theorem plays_law (n ask : Int) (v : Value) (l : List ActH) (W : World) (h : ActsAt W v l) (hok : ∀ a ∈ l, ActOk a) : Calls Try.prog 3 #[.int .i64 n, v, .int .i64 ask] W (Ans W) := by
  by_cases hn : n < 1 ∨ 1024 < n
  · exact plays_bad n ask v W hn
  · obtain ⟨nn, rfl⟩ : ∃ m : Nat, n = m := ⟨n.toNat, by omega⟩
    exact plays_good nn ask v l W h hok (by omega) (by omega)
end Go.Proofs.Ytademjmnoncieaa
