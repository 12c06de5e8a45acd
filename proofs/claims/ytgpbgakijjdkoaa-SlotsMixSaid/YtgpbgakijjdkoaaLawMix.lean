/-
  The law SlotsMix.
  Conditions: what the argument reads as.
-/
import Derived.Test.YtgpbgakijjdkoaaMix
import Derived.Deep.Cut
import Derived.Deep.CutRange
set_option linter.unusedVariables false
namespace Go.Proofs.Ytgpbgakijjdkoaa
open Go.RowKit TI

set_option maxRecDepth 100000 in
set_option maxHeartbeats 16000000 in
theorem mix_bad (n : Int) (v : Value) (W : World) (h : n < 1 ∨ 64 < n) : Calls Try.prog 4 #[.int .i64 n, v] W (Ans W) := by
  by_cases h1 : n < 1
  · have HN := Lib.hid (new_bad W n (.inl h1))
    have z2 : ¬ 64 < n := by omega
    have z3 : decide (64 < n) = false := decide_eq_false z2
    clear h
    go_enter Try.func4, Try.ntmps4
    go_wp2_with fail
    refine HN.out.mono ?_
    rintro e w ⟨rfl, rfl⟩
    go_wp2_with fail
    refine (awake_any W).mono ?_
    rintro e w4 ⟨rfl, h4⟩
    go_wp2_with fail
    go_ret
    exact ⟨rfl, h4⟩
  · have z1 : decide (n < 1) = false := decide_eq_false h1
    have z2 : 64 < n := by omega
    clear h
    by_cases h3 : 1024 < n
    · have HN := Lib.hid (new_bad W n (.inr h3))
      go_enter Try.func4, Try.ntmps4
      go_wp2_with fail
      refine HN.out.mono ?_
      rintro e w ⟨rfl, rfl⟩
      go_wp2_with fail
      go_ret
      exact ⟨rfl, Below.refl _ _⟩
    · obtain ⟨m, rfl⟩ : ∃ m : Nat, n = m := ⟨n.toNat, by omega⟩
      have HN := Lib.hid (new_ok W m (by omega) (by omega))
      clear h3
      go_enter Try.func4, Try.ntmps4
      go_wp2_with fail
      refine HN.out.mono ?_
      rintro e w ⟨rfl, _, hb⟩
      have HB := Lib.hid hb
      clear hb
      go_wp2_with fail
      go_ret
      exact ⟨rfl, HB.out⟩

/-- The row of ids has grown: what stands of the rest. -/
theorem two_first {w w4 : World} {tb : Nat} {sv fv : Value} {s : Ts Int} {B : Nat} {W0 : World} {v7 v8 v7' : Value} {c x : Nat} {f7 f8 : Nat → Nat} {o : Obj} (h : Two w tb sv fv B v7 v8 c f7 f8) (hh : Held B W0 w tb sv fv s)
    (hown : w4.ownsRow 0 3 1 v7' (c + 1) (lineCells f7 c ++ [.int .i64 x])) (hg : (w.alloc o).grownBy w4 v7.ownBlock) (hl : v7'.ownBlock = v7.ownBlock ∨ v7'.ownBlock = some (w.heap.size + 1)) :
    Held B W0 w4 tb sv fv s ∧ LineAt w4 v7' (c + 1) (upd f7 c x) ∧ LineAt w4 v8 c f8 ∧ (∀ k, v7'.ownBlock = some k → B ≤ k ∧ ¬ Foot tb sv fv k) ∧ (∀ k, v8.ownBlock = some k → B ≤ k ∧ ¬ Foot tb sv fv k) ∧ (∀ k, v7'.ownBlock = some k → v8.ownBlock ≠ some k) := by
  have hold : ∀ k, k < w.heap.size → v7.ownBlock ≠ some k → w4.heap[k]? = w.heap[k]? := fun k hk hne => (hg.block k (by simp; omega) (fun e => hne e.symm)).trans (Below.heap_alloc w o k hk)
  have hsz : w.heap.size ≤ w4.heap.size := by have := hg.size; simp at this; omega
  have hbel : Below B w w4 := ((Below.refl B w).alloc hh.hB o).trans (below_grown hg (by simp; have := hh.hB; omega) (fun k hk => (h.na k hk).1))
  refine ⟨⟨hh.lies.keep fun k hf => hold k (hh.lies.foot hf) (fun e => (h.na k e).2 hf), hh.ok, hh.h1, hh.h2, hh.h3, hh.bel.trans hbel, Nat.le_trans hh.hB hsz⟩, LineAt.of_own hown, h.b.keep fun k hk => hold k (h.b.lt hk) (fun e => h.nab k e hk), ?_, h.nb, ?_⟩
  · intro k hk
    rcases hl with e | e
    · exact h.na k (by rw [← e]; exact hk)
    · rw [e] at hk; injection hk with hk
      exact ⟨by have := hh.hB; omega, fun hf => by have := hh.lies.foot hf; omega⟩
  · intro k hk
    rcases hl with e | e
    · exact h.nab k (by rw [← e]; exact hk)
    · rw [e] at hk; injection hk with hk
      exact fun e8 => by have := h.b.lt e8; omega
theorem two_second {w w4 : World} {tb : Nat} {sv fv : Value} {s : Ts Int} {B : Nat} {W0 : World} {v7 v8 v8' : Value} {c x : Nat} {f7 f8 : Nat → Nat} {o : Obj}
    (h : Held B W0 w tb sv fv s ∧ LineAt w v7 (c + 1) f7 ∧ LineAt w v8 c f8 ∧ (∀ k, v7.ownBlock = some k → B ≤ k ∧ ¬ Foot tb sv fv k) ∧ (∀ k, v8.ownBlock = some k → B ≤ k ∧ ¬ Foot tb sv fv k) ∧ (∀ k, v7.ownBlock = some k → v8.ownBlock ≠ some k)) (hh : Held B W0 w tb sv fv s)
    (hown : w4.ownsRow 0 3 1 v8' (c + 1) (lineCells f8 c ++ [.int .i64 x])) (hg : (w.alloc o).grownBy w4 v8.ownBlock) (hl : v8'.ownBlock = v8.ownBlock ∨ v8'.ownBlock = some (w.heap.size + 1)) :
    Held B W0 w4 tb sv fv s ∧ Two w4 tb sv fv B v7 v8' (c + 1) f7 (upd f8 c x) := by
  obtain ⟨_, ha, hb, hna, hnb, hnab⟩ := h
  have hold : ∀ k, k < w.heap.size → v8.ownBlock ≠ some k → w4.heap[k]? = w.heap[k]? := fun k hk hne => (hg.block k (by simp; omega) (fun e => hne e.symm)).trans (Below.heap_alloc w o k hk)
  have hsz : w.heap.size ≤ w4.heap.size := by have := hg.size; simp at this; omega
  have hbel : Below B w w4 := ((Below.refl B w).alloc hh.hB o).trans (below_grown hg (by simp; have := hh.hB; omega) (fun k hk => (hnb k hk).1))
  refine ⟨⟨hh.lies.keep fun k hf => hold k (hh.lies.foot hf) (fun e => (hnb k e).2 hf), hh.ok, hh.h1, hh.h2, hh.h3, hh.bel.trans hbel, Nat.le_trans hh.hB hsz⟩, ⟨ha.keep fun k hk => hold k (ha.lt hk) (fun e => hnab k hk e), LineAt.of_own hown, hna, ?_, ?_⟩⟩
  · intro k hk
    rcases hl with e | e
    · exact hnb k (by rw [← e]; exact hk)
    · rw [e] at hk; injection hk with hk
      exact ⟨by have := hh.hB; omega, fun hf => by have := hh.lies.foot hf; omega⟩
  · intro k hk
    rcases hl with e | e
    · rw [e]; exact hnab k hk
    · rw [e]
      intro e8
      injection e8 with e8
      have := ha.lt hk
      omega

set_option maxRecDepth 100000 in
set_option maxHeartbeats 64000000 in
theorem mix_good (nn : Nat) (v : Value) (l : List ActH) (W : World) (h : ActsAt W v l) (hn0 : 0 < nn) (hn1 : nn ≤ 64) :
    Calls Try.prog 4 #[.int .i64 nn, v] W (Ans W) := by
  obtain ⟨i0, hi0, hz0, hz1, hz2⟩ := info_parts Try.infoInt
  have HNEW := Lib.hid (new_ok W nn hn0 (by omega))
  obtain ⟨A, c, rfl, hl, hat⟩ := h
  have HAT := Lib.hid hat
  obtain ⟨len, hlen⟩ : ∃ n, l.length = n := ⟨_, rfl⟩
  have HLEN := Lib.hid hlen
  rw [hlen] at hl ⊢
  obtain ⟨N, hN⟩ : ∃ N, min len 100 = N := ⟨_, rfl⟩
  have HNN := Lib.hid hN
  have hN60 : N ≤ 100 := by omega
  have z1 : ¬ (nn : Int) < 1 := by omega
  have z2 : ¬ (64 : Int) < (nn : Int) := by omega
  have z3 : decide ((nn : Int) < 1) = false := decide_eq_false z1
  have z4 : decide ((64 : Int) < (nn : Int)) = false := decide_eq_false z2
  clear hat hlen hN
  go_enter Try.func4, Try.ntmps4
  go_wp2_with fail
  refine HNEW.out.mono ?_
  rintro e w1 hnew
  have K0 := Lib.hid (Held.new (W0 := W) hn0 (by omega) (Below.refl W.heap.size W) (Nat.le_refl _) hnew)
  obtain ⟨rfl, _, _⟩ := hnew
  obtain ⟨tb, htb⟩ : ∃ tb, W.heap.size = tb := ⟨_, rfl⟩
  rw [htb] at K0 ⊢
  have HTB := Lib.hid htb
  clear htb HNEW
  go_wp2_with fail
  go_loopg [7, 8, 9] N (fun g s7 s8 s9 wr => MixRel nn tb W tb N g s7 s8 s9 wr)
  case atStart => exact ⟨0, 0, _, _, newT nn 0, fun _ => 0, fun _ => 0, Nat.zero_le _, rfl, rfl, K0.out, rfl, Nat.le_refl _, kept_new nn _ _, fun i => Nat.le_refl _, ⟨.inl ⟨rfl, rfl⟩, .inl ⟨rfl, rfl⟩, fun k hk => by simp [Value.ownBlock] at hk, fun k hk => by simp [Value.ownBlock] at hk, fun k hk => by simp [Value.ownBlock] at hk⟩⟩
  case round =>
    obtain ⟨k, cn, sv, fv, s, ids, gens, hk, hg, rfl, hheld, hsn, hck, hkept, hgb, htwo⟩ := hrel
    have HG := Lib.hid hg
    have HH := Lib.hid hheld
    have HSN := Lib.hid hsn
    have HCK := Lib.hid hck
    have HKE := Lib.hid hkept
    have HGB := Lib.hid hgb
    have HTW := Lib.hid htwo
    obtain ⟨A7, c7, rfl⟩ := htwo.a.form
    obtain ⟨A8, c8, rfl⟩ := htwo.b.form
    clear hg hheld hsn hck hkept hgb htwo K0
    by_cases hlt : k < N
    · have y1 : (k : Int) < (len : Int) := by have := HNN.out; omega
      have y2 : (k : Int) < 100 := by omega
      obtain ⟨ab, off, hA0, hbl, hcell⟩ := HAT.out (by rw [HLEN.out]; omega)
      subst hA0
      obtain ⟨a, ha⟩ := ex_at (xs := l) (k := k) (by rw [HLEN.out]; omega)
      obtain ⟨hc0, hc1, hc2, hc3⟩ := (hcell k a ha).keep (HH.out.bel.mono (by rw [HTB.out]; exact Nat.le_refl _)) hbl
      obtain ⟨kind, id, ge, x⟩ := a
      simp only at hc0 hc1 hc2 hc3
      clear hcell ha
      go_upto_region 11 with fail
      generalize hwa : wr.alloc (.cells #[.int .i64 kind, .int .i64 id, .int .i64 ge, .int .i64 x] 35) = wa
      obtain ⟨pa, hpa⟩ : ∃ y, wr.heap.size = y := ⟨_, rfl⟩
      have HBA := Lib.hid (show Below wr.heap.size wr wa by rw [← hwa]; exact (Below.refl _ _).alloc (Nat.le_refl _) _)
      have q0 : wa.cell? ⟨pa, 0, none⟩ = some (.int .i64 kind) := by rw [← hpa, ← hwa, World.cell?_alloc_new]; rfl
      have q1 : wa.cell? ⟨pa, 1, none⟩ = some (.int .i64 id) := by rw [← hpa, ← hwa, World.cell?_alloc_new]; rfl
      have q2 : wa.cell? ⟨pa, 2, none⟩ = some (.int .i64 ge) := by rw [← hpa, ← hwa, World.cell?_alloc_new]; rfl
      have q3 : wa.cell? ⟨pa, 3, none⟩ = some (.int .i64 x) := by rw [← hpa, ← hwa, World.cell?_alloc_new]; rfl
      have HA := Lib.hid (HH.out.below HBA.out)
      have TA := Lib.hid (HTW.out.below HBA.out)
      rw [hpa]
      clear hwa hpa hc0 hc1 hc2 hc3
      have HMB := Lib.hid (show s.m ≤ 1024 by have := HA.out.ok.mn; have := HA.out.ok.n1; omega)
      by_cases hkd : kind = 2 ∨ kind = 3
      · rcases hkd with rfl | rfl
        · as_aux_lemma =>
            rcases drop_mix HA.out.ok HKE.out HGB.out (by omega) id ge with hd | ⟨s', ho', hk', hn', hg', hd⟩
            · have HD := Lib.hid hd
              clear hd
              go_wp2_with fail
              refine (HD.out wa tb sv fv HA.out.lies).mono ?_
              rintro e w ⟨rfl, rfl⟩
              go_wp2_with fail
              go_roundg (N - (k + 1))
              case measure => have := HG.out; omega
              case rel => exact ⟨k + 1, cn, sv, fv, s, ids, gens, by omega, rfl, by go_num, HA.out, HSN.out, Nat.le_succ_of_le HCK.out, HKE.out, fun i => Nat.le_succ_of_le (HGB.out i), TA.out⟩
            · have HD := Lib.hid hd
              have HK1 := Lib.hid hk'
              have HN1 := Lib.hid (hn'.trans HSN.out)
              have HG1 := Lib.hid hg'
              have HO1 := Lib.hid ho'
              clear hd ho' hk' hn' hg'
              go_wp2_with fail
              refine (HD.out wa tb sv fv HA.out.lies).mono ?_
              rintro e w2 hm
              obtain ⟨sv1, fv1, rfl, hh1, ha1, hg1, hg2⟩ := HA.out.mut HO1.out hm
              have HH1 := Lib.hid hh1
              have TW1 := Lib.hid (TA.out.mut ha1 hg1 hg2)
              clear hm hh1 ha1 hg1 hg2
              go_wp2_with fail
              go_roundg (N - (k + 1))
              case measure => have := HG.out; omega
              case rel => exact ⟨k + 1, cn, sv1, fv1, s', ids, gens, by omega, rfl, by go_num, HH1.out, HN1.out, Nat.le_succ_of_le HCK.out, HK1.out, HG1.out, TW1.out⟩
        · as_aux_lemma =>
            rcases drop_mix HA.out.ok HKE.out HGB.out (by omega) id ge with hd | ⟨s', ho', hk', hn', hg', hd⟩
            · have HD := Lib.hid hd
              clear hd
              go_wp2_with fail
              refine (HD.out wa tb sv fv HA.out.lies).mono ?_
              rintro e w ⟨rfl, rfl⟩
              go_wp2_with fail
              go_roundg (N - (k + 1))
              case measure => have := HG.out; omega
              case rel => exact ⟨k + 1, cn, sv, fv, s, ids, gens, by omega, rfl, by go_num, HA.out, HSN.out, Nat.le_succ_of_le HCK.out, HKE.out, fun i => Nat.le_succ_of_le (HGB.out i), TA.out⟩
            · have HD := Lib.hid hd
              have HK1 := Lib.hid hk'
              have HN1 := Lib.hid (hn'.trans HSN.out)
              have HG1 := Lib.hid hg'
              have HO1 := Lib.hid ho'
              clear hd ho' hk' hn' hg'
              go_wp2_with fail
              refine (HD.out wa tb sv fv HA.out.lies).mono ?_
              rintro e w2 hm
              obtain ⟨sv1, fv1, rfl, hh1, ha1, hg1, hg2⟩ := HA.out.mut HO1.out hm
              have HH1 := Lib.hid hh1
              have TW1 := Lib.hid (TA.out.mut ha1 hg1 hg2)
              clear hm hh1 ha1 hg1 hg2
              go_wp2_with fail
              go_roundg (N - (k + 1))
              case measure => have := HG.out; omega
              case rel => exact ⟨k + 1, cn, sv1, fv1, s', ids, gens, by omega, rfl, by go_num, HH1.out, HN1.out, Nat.le_succ_of_le HCK.out, HK1.out, HG1.out, TW1.out⟩
      · have k2 : (kind == 2) = false := by simp; exact fun e => hkd (.inl e)
        have k3 : (kind == 3) = false := by simp; exact fun e => hkd (.inr e)
        have HLEN2 := Lib.hid (len_any wa tb sv fv s HA.out.lies HMB.out (cntU s.use s.m) HA.out.ok.cnt)
        obtain ⟨dd, hdd⟩ : ∃ y, cntU s.use s.m = y := ⟨_, rfl⟩
        rw [hdd] at HLEN2
        rcases take_mix HA.out.ok HKE.out HGB.out with ⟨hfull, ht⟩ | ⟨s', idn, gn, ho', hk', hn', hg', hlt2, ht⟩
        · as_aux_lemma =>
            rw [hdd, HSN.out] at hfull
            have e1 : decide ((dd : Int) < (nn : Int)) = false := decide_eq_false (by omega)
            have e2 : ¬ (dd : Int) < (nn : Int) := by omega
            have HT := Lib.hid ht
            clear ht hfull hdd
            go_wp2_with fail
            refine HLEN2.out.mono ?_
            rintro e w2 ⟨rfl, hb2⟩
            have HA2 := Lib.hid (HA.out.below hb2)
            have TA2 := Lib.hid (TA.out.below hb2)
            clear hb2
            go_wp2_with fail
            refine (HT.out w2 tb sv fv HA2.out.lies).mono ?_
            rintro e w3 ⟨rfl, hb3⟩
            have HA3 := Lib.hid (HA2.out.below hb3)
            have TA3 := Lib.hid (TA2.out.below hb3)
            clear hb3
            go_wp2_with fail
            go_roundg (N - (k + 1))
            case measure => have := HG.out; omega
            case rel => exact ⟨k + 1, cn, sv, fv, s, ids, gens, by omega, rfl, by go_num, HA3.out, HSN.out, Nat.le_succ_of_le HCK.out, HKE.out, fun i => Nat.le_succ_of_le (HGB.out i), TA3.out⟩
        · as_aux_lemma =>
            rw [hdd, HSN.out] at hlt2
            have e1 : decide ((dd : Int) < (nn : Int)) = true := decide_eq_true (by omega)
            have e2 : (dd : Int) < (nn : Int) := by omega
            have HT := Lib.hid ht
            have HK1 := Lib.hid hk'
            have HN1 := Lib.hid (hn'.trans HSN.out)
            have HG1 := Lib.hid hg'
            have HO1 := Lib.hid ho'
            clear ht hk' hn' hg' ho' hlt2 hdd
            go_wp2_with fail
            refine HLEN2.out.mono ?_
            rintro e w2 ⟨rfl, hb2⟩
            have HA2 := Lib.hid (HA.out.below hb2)
            have TA2 := Lib.hid (TA.out.below hb2)
            clear hb2
            go_wp2_with fail
            refine (HT.out w2 tb sv fv HA2.out.lies).mono ?_
            rintro e w3 hm
            obtain ⟨sv1, fv1, rfl, hh1, ha1, hg1, hg2⟩ := HA2.out.mut HO1.out hm
            have HH3 := Lib.hid hh1
            have TW3 := Lib.hid (TA2.out.mut ha1 hg1 hg2)
            clear hm hh1 ha1 hg1 hg2
            have HO7 := Lib.hid TW3.out.a.own
            have KB := Lib.hid (show cn + 1 ≤ 100000 by have := HCK.out; omega)
            clear q0 q1 q2 q3
            go_upto_region 18 with fail
            go_wp2_with (at_builtin; refine wpList_append_own_at _ rfl _ _ 37 rfl 0 3 i0 (.int .i64 0) 1 8 Try.underlying37 hi0 hz0 hz1 hz2 rfl (by decide) _ _ _ rfl (HO7.out.alloc _) ⟨w3.heap.size, 0, none⟩ 1 1 [.int .i64 idn] rfl rfl ?c1 ?c2 ?c3 ?c4 ?c5 ?_)
            case c1 =>
              intro j u hj
              rcases j with _ | j
              · simpa [Addr.add] using hj
              · simp at hj
            case c2 => intro u hu; simp at hu; subst hu; rfl
            case c3 => exact len_small KB.out
            case c4 => exact bytes_small 8 (by decide) KB.out
            case c5 => exact Nat.zero_le _
            intro v7 w4 hown hgr _ hloc
            obtain ⟨A7n, n7n, rfl⟩ := own_form hown
            have HG7 := Lib.hid hgr
            have HL7 := Lib.hid hloc
            have HO7n := Lib.hid hown
            clear hown hgr hloc
            have T4 := Lib.hid (two_first TW3.out HH3.out HO7n.out HG7.out HL7.out)
            have HH4 := Lib.hid (T4.out.1)
            have LA4 := Lib.hid (T4.out.2.1)
            have HO8 := Lib.hid T4.out.2.2.1.own
            go_wp2_with (at_builtin; refine wpList_append_own_at _ rfl _ _ 37 rfl 0 3 i0 (.int .i64 0) 1 8 Try.underlying37 hi0 hz0 hz1 hz2 rfl (by decide) _ _ _ rfl (HO8.out.alloc _) ⟨w4.heap.size, 0, none⟩ 1 1 [.int .i64 gn] rfl rfl ?c1 ?c2 ?c3 ?c4 ?c5 ?_)
            case c1 =>
              intro j u hj
              rcases j with _ | j
              · simpa [Addr.add] using hj
              · simp at hj
            case c2 => intro u hu; simp at hu; subst hu; rfl
            case c3 => exact len_small KB.out
            case c4 => exact bytes_small 8 (by decide) KB.out
            case c5 => exact Nat.zero_le _
            intro v8 w5 hown hgr _ hloc
            obtain ⟨A8n, n8n, rfl⟩ := own_form hown
            have T5 := Lib.hid (two_second T4.out HH4.out hown hgr hloc)
            clear hown hgr hloc
            go_wp2_with fail
            go_roundg (N - (k + 1))
            case measure => have := HG.out; omega
            case rel => exact ⟨k + 1, cn + 1, sv1, fv1, s', upd ids cn idn, upd gens cn gn, by omega, rfl, by go_num, T5.out.1, HN1.out, Nat.succ_le_succ HCK.out, HK1.out, HG1.out, T5.out.2⟩
    · have hk2 : k = N := by omega
      have z9 : (k : Int) < (len : Int) ∧ decide ((k : Int) < 100) = false ∨ decide ((k : Int) < (len : Int)) = false := by
        by_cases q : (k : Int) < (len : Int)
        · exact .inl ⟨q, decide_eq_false (by have := HNN.out; omega)⟩
        · exact .inr (decide_eq_false q)
      rcases z9 with ⟨q1, q2⟩ | q1
      · have q3 : ¬ (k : Int) < 100 := of_decide_eq_false q2
        as_aux_lemma =>
          go_wp2_with fail
          go_loopg [15] cn (fun g s15 wx => ∃ j : Nat, j ≤ cn ∧ g = cn - j ∧ s15 = .int .i64 j ∧ Below wr.heap.size wr wx)
          case atStart => exact ⟨0, Nat.zero_le _, rfl, rfl, Below.refl _ _⟩
          case round =>
            obtain ⟨j, hj, hg2, rfl, hbx⟩ := hrel
            have HGJ := Lib.hid hg2
            have HBX := Lib.hid hbx
            clear hg2 hbx
            by_cases hlj : j < cn
            · have hcb : cn ≤ 100 := by have := HCK.out; omega
              obtain ⟨g7, p7, hv7, _, _, hl7, hc7, _⟩ := HTW.out.a.row (by omega)
              obtain ⟨g8, p8, hv8, _, _, hl8, hc8, _⟩ := HTW.out.b.row (by omega)
              injection hv7 with e1 e2 e3
              injection hv8 with f1 f2 f3
              subst e1 f1
              have d7 := (HBX.out.cell (p := ⟨g7, j, none⟩) hl7).trans (hc7 j hlj)
              have d8 := (HBX.out.cell (p := ⟨g8, j, none⟩) hl8).trans (hc8 j hlj)
              have hm7 := Nat.lt_of_lt_of_le hl7 HBX.out.size
              have hm8 := Nat.lt_of_lt_of_le hl8 HBX.out.size
              have HX := Lib.hid (HH.out.below HBX.out)
              have HLJ := Lib.hid hlj
              have y8 : (j : Int) < (cn : Int) := Int.ofNat_lt.2 hlj
              have HMB := Lib.hid (show s.m ≤ 1024 by have := HH.out.ok.mn; have := HH.out.ok.n1; omega)
              obtain ⟨xi, hxi⟩ : ∃ y, ids j = y := ⟨_, rfl⟩
              obtain ⟨xg, hxg⟩ : ∃ y, gens j = y := ⟨_, rfl⟩
              have hkg := kept_get HKE.out hlj
              rw [hxi, hxg] at hkg
              rw [hxi] at d7
              rw [hxg] at d8
              have C7 := Lib.hid (show ∀ w', Below wr.heap.size wr w' → w'.cell? ⟨g7, j, none⟩ = some (.int .i64 xi) from fun w' hB => (hB.cell (p := ⟨g7, j, none⟩) hm7).trans d7)
              have C8 := Lib.hid (show ∀ w', Below wr.heap.size wr w' → w'.cell? ⟨g8, j, none⟩ = some (.int .i64 xg) from fun w' hB => (hB.cell (p := ⟨g8, j, none⟩) hm8).trans d8)
              have HDR := Lib.hid (show Below wr.heap.size wr wr.drew from below_drewN (Below.refl _ _) 1)
              have HGET := Lib.hid (fun w' (hb : Below wr.heap.size wr w') => get_any w' tb sv fv s (xi : Int) (xg : Int) (HX.out.below hb).lies HMB.out)
              clear hc7 hc8 hxi hxg e2 e3 f2 f3 hlj d7 d8 hm7 hm8
              go_upto_region 22 with fail
              rcases hkg with hkg | hkg
              · have HGB2 := Lib.hid (show ∀ w', Below wr.heap.size wr w' → Calls Try.prog 15 #[.pointer (some ⟨tb, 0, none⟩), .int .i64 (xi : Int), .int .i64 (xg : Int)] w' (RetB (.tuple #[.int .i64 j, .bool true]) w') from fun w' hb => by
                  have hge := HGET.out w' hb
                  rw [hkg] at hge
                  exact hge)
                clear hkg HGET
                go_region_held3 (fun w' => w'.cell? ⟨g7, j, none⟩ = some (.int .i64 xi) ∧ w'.cell? ⟨g8, j, none⟩ = some (.int .i64 xg) ∧ Hid (Below wr.heap.size wr w'))
                  (first | exact ⟨C7.out _ HDR.out, C8.out _ HDR.out, HDR⟩ | exact ⟨C7.out _ (stepB (by assumption) hb), C8.out _ (stepB (by assumption) hb), Lib.hid (stepB (by assumption) hb)⟩)
                  (first | (go_at_call 15; refine (HGB2.out _ ?hz).mono ?_; (case hz => first | exact HDR.out | exact Hid.out (by assumption)); rintro e w5 ⟨rfl, hb⟩))
                have hS3 : w5.cell? ⟨g7, j, none⟩ = some (.int .i64 xi) ∧ w5.cell? ⟨g8, j, none⟩ = some (.int .i64 xg) ∧ Hid (Below wr.heap.size wr w5) := by assumption
                have HS5 := hS3.2.2
                clear hS3
                go_wp2_with fail
                go_roundg (cn - (j + 1))
                case measure => have := HGJ.out; have := HLJ.out; omega
                case rel => exact ⟨j + 1, HLJ.out, rfl, by go_num, HBX.out.trans (HS5.out.mono HBX.out.size)⟩
              · have HGB2 := Lib.hid (show ∀ w', Below wr.heap.size wr w' → Calls Try.prog 15 #[.pointer (some ⟨tb, 0, none⟩), .int .i64 (xi : Int), .int .i64 (xg : Int)] w' (RetB (.tuple #[.int .i64 0, .bool false]) w') from fun w' hb => by
                  have hge := HGET.out w' hb
                  rw [hkg] at hge
                  exact hge)
                clear hkg HGET
                go_region_held3 (fun w' => w'.cell? ⟨g7, j, none⟩ = some (.int .i64 xi) ∧ w'.cell? ⟨g8, j, none⟩ = some (.int .i64 xg) ∧ Hid (Below wr.heap.size wr w'))
                  (first | exact ⟨C7.out _ HDR.out, C8.out _ HDR.out, HDR⟩ | exact ⟨C7.out _ (stepB (by assumption) hb), C8.out _ (stepB (by assumption) hb), Lib.hid (stepB (by assumption) hb)⟩)
                  (first | (go_at_call 15; refine (HGB2.out _ ?hz).mono ?_; (case hz => first | exact HDR.out | exact Hid.out (by assumption)); rintro e w5 ⟨rfl, hb⟩))
                have hS3 : w5.cell? ⟨g7, j, none⟩ = some (.int .i64 xi) ∧ w5.cell? ⟨g8, j, none⟩ = some (.int .i64 xg) ∧ Hid (Below wr.heap.size wr w5) := by assumption
                have HS5 := hS3.2.2
                clear hS3
                go_wp2_with fail
                go_roundg (cn - (j + 1))
                case measure => have := HGJ.out; have := HLJ.out; omega
                case rel => exact ⟨j + 1, HLJ.out, rfl, by go_num, HBX.out.trans (HS5.out.mono HBX.out.size)⟩
            · have hjc : j = cn := by omega
              subst hjc
              have HFI := Lib.hid (HH.out.below HBX.out)
              go_wp2_with fail
              refine (awake_any wr).mono ?_
              rintro e w4 ⟨rfl, h4⟩
              have HFJ := Lib.hid (HFI.out.below h4)
              clear h4
              go_wp2_with fail
              go_ret
              exact ⟨rfl, by rw [HTB.out]; exact HFJ.out.bel⟩
      · have q3 : ¬ (k : Int) < (len : Int) := of_decide_eq_false q1
        as_aux_lemma =>
          go_wp2_with fail
          go_loopg [15] cn (fun g s15 wx => ∃ j : Nat, j ≤ cn ∧ g = cn - j ∧ s15 = .int .i64 j ∧ Below wr.heap.size wr wx)
          case atStart => exact ⟨0, Nat.zero_le _, rfl, rfl, Below.refl _ _⟩
          case round =>
            obtain ⟨j, hj, hg2, rfl, hbx⟩ := hrel
            have HGJ := Lib.hid hg2
            have HBX := Lib.hid hbx
            clear hg2 hbx
            by_cases hlj : j < cn
            · have hcb : cn ≤ 100 := by have := HCK.out; omega
              obtain ⟨g7, p7, hv7, _, _, hl7, hc7, _⟩ := HTW.out.a.row (by omega)
              obtain ⟨g8, p8, hv8, _, _, hl8, hc8, _⟩ := HTW.out.b.row (by omega)
              injection hv7 with e1 e2 e3
              injection hv8 with f1 f2 f3
              subst e1 f1
              have d7 := (HBX.out.cell (p := ⟨g7, j, none⟩) hl7).trans (hc7 j hlj)
              have d8 := (HBX.out.cell (p := ⟨g8, j, none⟩) hl8).trans (hc8 j hlj)
              have hm7 := Nat.lt_of_lt_of_le hl7 HBX.out.size
              have hm8 := Nat.lt_of_lt_of_le hl8 HBX.out.size
              have HX := Lib.hid (HH.out.below HBX.out)
              have HLJ := Lib.hid hlj
              have y8 : (j : Int) < (cn : Int) := Int.ofNat_lt.2 hlj
              have HMB := Lib.hid (show s.m ≤ 1024 by have := HH.out.ok.mn; have := HH.out.ok.n1; omega)
              obtain ⟨xi, hxi⟩ : ∃ y, ids j = y := ⟨_, rfl⟩
              obtain ⟨xg, hxg⟩ : ∃ y, gens j = y := ⟨_, rfl⟩
              have hkg := kept_get HKE.out hlj
              rw [hxi, hxg] at hkg
              rw [hxi] at d7
              rw [hxg] at d8
              have C7 := Lib.hid (show ∀ w', Below wr.heap.size wr w' → w'.cell? ⟨g7, j, none⟩ = some (.int .i64 xi) from fun w' hB => (hB.cell (p := ⟨g7, j, none⟩) hm7).trans d7)
              have C8 := Lib.hid (show ∀ w', Below wr.heap.size wr w' → w'.cell? ⟨g8, j, none⟩ = some (.int .i64 xg) from fun w' hB => (hB.cell (p := ⟨g8, j, none⟩) hm8).trans d8)
              have HDR := Lib.hid (show Below wr.heap.size wr wr.drew from below_drewN (Below.refl _ _) 1)
              have HGET := Lib.hid (fun w' (hb : Below wr.heap.size wr w') => get_any w' tb sv fv s (xi : Int) (xg : Int) (HX.out.below hb).lies HMB.out)
              clear hc7 hc8 hxi hxg e2 e3 f2 f3 hlj d7 d8 hm7 hm8
              go_upto_region 22 with fail
              rcases hkg with hkg | hkg
              · have HGB2 := Lib.hid (show ∀ w', Below wr.heap.size wr w' → Calls Try.prog 15 #[.pointer (some ⟨tb, 0, none⟩), .int .i64 (xi : Int), .int .i64 (xg : Int)] w' (RetB (.tuple #[.int .i64 j, .bool true]) w') from fun w' hb => by
                  have hge := HGET.out w' hb
                  rw [hkg] at hge
                  exact hge)
                clear hkg HGET
                go_region_held3 (fun w' => w'.cell? ⟨g7, j, none⟩ = some (.int .i64 xi) ∧ w'.cell? ⟨g8, j, none⟩ = some (.int .i64 xg) ∧ Hid (Below wr.heap.size wr w'))
                  (first | exact ⟨C7.out _ HDR.out, C8.out _ HDR.out, HDR⟩ | exact ⟨C7.out _ (stepB (by assumption) hb), C8.out _ (stepB (by assumption) hb), Lib.hid (stepB (by assumption) hb)⟩)
                  (first | (go_at_call 15; refine (HGB2.out _ ?hz).mono ?_; (case hz => first | exact HDR.out | exact Hid.out (by assumption)); rintro e w5 ⟨rfl, hb⟩))
                have hS3 : w5.cell? ⟨g7, j, none⟩ = some (.int .i64 xi) ∧ w5.cell? ⟨g8, j, none⟩ = some (.int .i64 xg) ∧ Hid (Below wr.heap.size wr w5) := by assumption
                have HS5 := hS3.2.2
                clear hS3
                go_wp2_with fail
                go_roundg (cn - (j + 1))
                case measure => have := HGJ.out; have := HLJ.out; omega
                case rel => exact ⟨j + 1, HLJ.out, rfl, by go_num, HBX.out.trans (HS5.out.mono HBX.out.size)⟩
              · have HGB2 := Lib.hid (show ∀ w', Below wr.heap.size wr w' → Calls Try.prog 15 #[.pointer (some ⟨tb, 0, none⟩), .int .i64 (xi : Int), .int .i64 (xg : Int)] w' (RetB (.tuple #[.int .i64 0, .bool false]) w') from fun w' hb => by
                  have hge := HGET.out w' hb
                  rw [hkg] at hge
                  exact hge)
                clear hkg HGET
                go_region_held3 (fun w' => w'.cell? ⟨g7, j, none⟩ = some (.int .i64 xi) ∧ w'.cell? ⟨g8, j, none⟩ = some (.int .i64 xg) ∧ Hid (Below wr.heap.size wr w'))
                  (first | exact ⟨C7.out _ HDR.out, C8.out _ HDR.out, HDR⟩ | exact ⟨C7.out _ (stepB (by assumption) hb), C8.out _ (stepB (by assumption) hb), Lib.hid (stepB (by assumption) hb)⟩)
                  (first | (go_at_call 15; refine (HGB2.out _ ?hz).mono ?_; (case hz => first | exact HDR.out | exact Hid.out (by assumption)); rintro e w5 ⟨rfl, hb⟩))
                have hS3 : w5.cell? ⟨g7, j, none⟩ = some (.int .i64 xi) ∧ w5.cell? ⟨g8, j, none⟩ = some (.int .i64 xg) ∧ Hid (Below wr.heap.size wr w5) := by assumption
                have HS5 := hS3.2.2
                clear hS3
                go_wp2_with fail
                go_roundg (cn - (j + 1))
                case measure => have := HGJ.out; have := HLJ.out; omega
                case rel => exact ⟨j + 1, HLJ.out, rfl, by go_num, HBX.out.trans (HS5.out.mono HBX.out.size)⟩
            · have hjc : j = cn := by omega
              subst hjc
              have HFI := Lib.hid (HH.out.below HBX.out)
              go_wp2_with fail
              refine (awake_any wr).mono ?_
              rintro e w4 ⟨rfl, h4⟩
              have HFJ := Lib.hid (HFI.out.below h4)
              clear h4
              go_wp2_with fail
              go_ret
              exact ⟨rfl, by rw [HTB.out]; exact HFJ.out.bel⟩

theorem mix_law (n : Int) (v : Value) (l : List ActH) (W : World) (h : ActsAt W v l) : Calls Try.prog 4 #[.int .i64 n, v] W (Ans W) := by
  by_cases hn : n < 1 ∨ 64 < n
  · exact mix_bad n v W hn
  · obtain ⟨nn, rfl⟩ : ∃ m : Nat, n = m := ⟨n.toNat, by omega⟩
    exact mix_good nn v l W h (by omega) (by omega)
end Go.Proofs.Ytgpbgakijjdkoaa
