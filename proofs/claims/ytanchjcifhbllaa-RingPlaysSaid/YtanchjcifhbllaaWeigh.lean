/-
  Weigh by contract.
  Conditions: the ring lies in memory; its numbers fit.
-/
import Derived.Test.YtanchjcifhbllaaCalls2
set_option linter.unusedVariables false
namespace Go.Proofs.Ytanchjcifhbllaa
open Go.RowKit Go.Sort

set_option maxRecDepth 100000 in
set_option maxHeartbeats 2000000 in
theorem weigh_any (W : World) (rb : Nat) (mv : Value) (s : Rg) (id w : Int) (h : RingAt W rb mv s) (hk : Okay s) :
    Calls Try.prog 24 #[.pointer (some ⟨rb, 0, none⟩), .int .i64 id, .int .i64 w] W (MutPost W rb mv (.int .i64 (weighA s id w).1) (weighA s id w).2) := by
  have HR := Lib.hid h
  have HS := Lib.hid (seek_any W rb mv s id h hk.pos (by have := hk.len; omega))
  have HW := Lib.hid (isWeight_any w)
  unfold weighA
  cases hq : findK s.l id with
  | none =>
    rw [hq] at HS
    have HEND := Lib.hid (fun (e : Ending) (w' : World) (hb : Below W.heap.size W w') (he : e = .returned (.int .i64 10)) => mut_below h hb he)
    unfold seekV at HS
    simp only at HS
    clear h hk hq
    go_enter Try.func24, Try.ntmps24
    go_wp2_with fail
    refine HS.out.mono ?_
    rintro e w1 ⟨rfl, hb⟩
    have HB := Lib.hid hb
    clear hb
    go_wp2
    go_ret
    exact HEND.out _ _ HB.out rfl
  | some k =>
    rw [hq] at HS
    obtain ⟨m, hm, hid⟩ := findK_some hq
    clear hid
    have HFL := Lib.hid (fun (w' : World) (hb : Below W.heap.size W w') => floor_any w' rb _ s s.lim (h.below hb) hk.fit hk.pos (by have := hk.hi; omega))
    have HMEM := Lib.hid hm
    have HOK := Lib.hid hk
    have hkl := (List.getElem?_eq_some_iff.1 hm).1
    have hlen := hk.len
    obtain ⟨g, cap, hmv, hg1, hg2, hg3, hg4, hat, hfr⟩ := h.at_ hm
    subst hmv
    obtain ⟨n, hn⟩ : ∃ n, s.l.length = n := ⟨_, rfl⟩
    have HN := Lib.hid hn
    rw [hn] at hkl hlen hg3 h HR ⊢
    unfold seekV at HS
    simp only at HS
    unfold passA at HFL
    have hk1 : (k : Int) < (n : Int) := by omega
    have hk0 : (0 : Int) ≤ (k : Int) := by omega
    have hk2 : (k : Int) < 32 := by omega
    have HG := Lib.hid hg1
    have HGR := Lib.hid hg2
    have HAT := Lib.hid hat
    have HFR := Lib.hid hfr
    simp only [memK_at HMEM.out]
    by_cases hw : w < 1 ∨ 1000 < w
    · rw [if_pos hw]
      rw [decide_eq_false (by omega : ¬ (1 ≤ w ∧ w ≤ 1000))] at HW
      have HEND := Lib.hid (fun (e : Ending) (w' : World) (hb : Below W.heap.size W w') (he : e = .returned (.int .i64 22)) => mut_below h hb he)
      clear h hk hq hm hn hg1 hg2 hg3 hg4 hat hfr HMEM HOK hw
      go_enter Try.func24, Try.ntmps24
      go_wp2_with fail
      refine HS.out.mono ?_
      rintro e w1 ⟨rfl, hb⟩
      have HB := Lib.hid hb
      clear hb
      go_wp2_with (go_at_call 36; refine (HW.out _).mono ?_; rintro e w' ⟨rfl, rfl⟩)
      go_ret
      exact HEND.out _ _ HB.out rfl
    · rw [if_neg hw]
      rw [decide_eq_true (by omega : 1 ≤ w ∧ w ≤ 1000)] at HW
      obtain ⟨v, rfl⟩ : ∃ v : Nat, w = v := ⟨w.toNat, by omega⟩
      rw [Int.toNat_natCast]
      have hv : v ≤ 1000 := by omega
      have HV := Lib.hid hv
      have HMEM2 := Lib.hid (hk.mem (List.mem_of_getElem? hm))
      have HP := Lib.hid (fun W => pass_any m HMEM2.out.2.1 W)
      have HT := Lib.hid (fun W => times_any (m.n, m.w) v HMEM2.out.1 hv W)
      unfold weighR weighM
      obtain ⟨u, hu⟩ : ∃ u, upN (m.n, m.w) v = u := ⟨_, rfl⟩
      obtain ⟨d, hd⟩ : ∃ d, downN (m.n, m.w) v + 1 = d := ⟨_, rfl⟩
      have HUL := Lib.hid (HMEM2.out.1.up hv)
      rw [hu] at HUL
      rw [hu, hd] at HT
      rw [hu]
      have HFRAC := Lib.hid hk.frac
      obtain ⟨x, hx⟩ : ∃ x, clampN (floorN s) v u = x := ⟨_, rfl⟩
      have HX := Lib.hid hx
      rw [hx]
      obtain ⟨y, hy⟩ : ∃ y, (if m.on = true then x else u) = y := ⟨_, rfl⟩
      have HY := Lib.hid hy
      rw [hy]
      clear hy
      obtain ⟨f, hf⟩ : ∃ f, floorN s = f := ⟨_, rfl⟩
      rw [hf] at HFL HFRAC HX
      have HC := Lib.hid (fun (w' : World) (h1 : MbAt w' g (k * 4) ⟨m.id, v, u, m.on⟩) h2 h3 => clamp_any w' g (k * 4) ⟨m.id, v, u, m.on⟩ f h1 h2 h3 HFRAC.out HV.out (by have := HUL.out; show u < _; omega))
      simp only at HC
      rw [HX.out] at HC
      unfold passA at HC HP HT
      unfold mbA at HP
      clear h hk hq hm hn hg1 hg2 hg3 hg4 hat hfr HOK hx hf hu hd hw hv
      obtain ⟨m1, m2, m3, m4⟩ := m
      obtain ⟨f1, f2⟩ := f
      simp only at HP HT HFL HC HY ⊢
      go_enter Try.func24, Try.ntmps24
      go_wp2_with fail
      refine HS.out.mono ?_
      rintro e w1 ⟨rfl, hb⟩
      have HB := Lib.hid hb
      obtain ⟨_, c1, _⟩ := (HR.out.below hb).heads
      clear hb
      go_wp2_with fail
      refine (HW.out _).mono ?_
      rintro e w' ⟨rfl, rfl⟩
      go_wp2_with fail
      refine (HFL.out _ HB.out).mono ?_
      rintro e w2 ⟨rfl, hb⟩
      have HB2 := Lib.hid (HB.out.trans (hb.mono HB.out.size))
      obtain ⟨N, hN⟩ : ∃ N, w2.heap.size = N := ⟨_, rfl⟩
      obtain ⟨w3, hw3⟩ : ∃ w3, w2.alloc (.cells #[.int .u64 f1, .int .u64 f2] 58) = w3 := ⟨_, rfl⟩
      have HN3 : Hid (w3.heap[N]? = some (.cells #[.int .u64 f1, .int .u64 f2] 58 (0, 0))) := by rw [← hw3]; exact alloc_block w2 _ hN
      have HB3 : Hid (Below W.heap.size W w3) := by rw [← hw3]; exact HB2.out.alloc HB2.out.size _
      have HGN := Lib.hid (show g < N from by have := HB2.out.size; have := HG.out; omega)
      clear hb c1
      obtain ⟨a0, a1, a2, a3⟩ := HAT.out.keep (HB3.out.block g HG.out)
      go_wp2_with fail
      clear hw3 hN
      refine (HP.out _).mono ?_
      rintro e w4 ⟨rfl, hb⟩
      have HB4 := Lib.hid (HB3.out.trans (hb.below.mono HB3.out.size))
      have HN4 := Lib.hid (keep_block HN3.out hb.below)
      clear a0 a1 a2 a3 hb
      go_wp2_with fail
      refine (HT.out _).mono ?_
      rintro e w5 ⟨rfl, hb⟩
      have HB5 := Lib.hid (HB4.out.trans (hb.mono HB4.out.size))
      have HN5 := Lib.hid (keep_block HN4.out hb)
      have HR5 := Lib.hid (HR.out.below HB5.out)
      clear hb
      obtain ⟨_, _, hmv, _, _, _, _, ⟨a0, a1, a2, a3⟩, hfr⟩ := HR5.out.at_ HMEM.out
      injection hmv with hmv _ _
      injection hmv with hmv
      injection hmv with hmv
      subst hmv
      have b1 := hfr (k * 4 + 1)
      have b3 := hfr (k * 4 + 3)
      have HM5 := Lib.hid (show (s.l.set k ⟨m1, m2, u, m4⟩)[k]? = some ⟨m1, m2, u, m4⟩ from List.getElem?_set_self (List.getElem?_eq_some_iff.1 HMEM.out).1)
      have HR6 := Lib.hid ((HR5.out.setN HMEM.out u).setW HM5.out v)
      rw [show ({ s with l := s.l.set k ⟨m1, m2, u, m4⟩ } : Rg).l.set k ⟨m1, v, u, m4⟩ = s.l.set k ⟨m1, v, u, m4⟩ from List.set_set ..] at HR6
      have HA6 := Lib.hid (((Apart.of_below (F := Foot rb (.slice (some ⟨g, 0, none⟩) n cap)) HB5.out).set (p := ⟨g, k * 4 + 3, none⟩) (.inl (.inr rfl)) (.int .u64 u)).set (p := ⟨g, k * 4 + 1, none⟩) (.inl (.inr rfl)) (.int .i64 v))
      have HN6 := Lib.hid (((Below.heap_setCell (w5.setCell ⟨g, k * 4 + 3, none⟩ (.int .u64 u)) ⟨g, k * 4 + 1, none⟩ (.int .i64 v) N (show N ≠ g by have := HGN.out; omega)).trans (Below.heap_setCell w5 ⟨g, k * 4 + 3, none⟩ (.int .u64 u) N (show N ≠ g by have := HGN.out; omega))).trans HN5.out)
      obtain ⟨w6, hw6⟩ : ∃ w6, (w5.setCell ⟨g, k * 4 + 3, none⟩ (.int .u64 u)).setCell ⟨g, k * 4 + 1, none⟩ (.int .i64 v) = w6 := ⟨_, rfl⟩
      rw [hw6] at HR6 HA6 HN6
      have HM6 := Lib.hid (show (s.l.set k ⟨m1, v, u, m4⟩)[k]? = some ⟨m1, v, u, m4⟩ from List.getElem?_set_self (List.getElem?_eq_some_iff.1 HMEM.out).1)
      obtain ⟨_, _, hmv, hg1, _, _, _, hat6, hfr6⟩ := HR6.out.at_ HM6.out
      injection hmv with hmv _ _
      injection hmv with hmv
      injection hmv with hmv
      subst hmv
      have HAT6 := Lib.hid hat6
      have HFR6 := Lib.hid hfr6
      have HG6 := Lib.hid hg1
      obtain ⟨_, _, a6, _⟩ := hat6
      obtain ⟨n0, n1, _⟩ := two_heads HN6.out
      clear hfr hfr6 hg1
      cases m4 with
      | false =>
        rw [if_neg (by decide)] at HY
        have HEND : Hid (∀ e, e = .returned (.int .i64 0) → MutPost W rb (.slice (some ⟨g, 0, none⟩) n cap) (.int .i64 0) { s with l := s.l.set k ⟨m1, v, y, false⟩ } e w6) := fun e he => by
          rw [← HY.out]
          exact ⟨_, he, HR6.out, HA6.out, Grew.refl _ _⟩
        go_wp2
        go_ret
        exact HEND.out _ rfl
      | true =>
        rw [if_pos rfl] at HY
        go_wp2_with fail
        refine (HC.out _ HAT6.out HG6.out HFR6.out).mono ?_
        rintro e w7 ⟨w8, rfl, hb, rfl⟩
        have HEND : Hid (∀ e, e = .returned (.int .i64 0) → MutPost W rb (.slice (some ⟨g, 0, none⟩) n cap) (.int .i64 0) { s with l := s.l.set k ⟨m1, v, y, true⟩ } e (w8.setCell ⟨g, k * 4 + 3, none⟩ (.int .u64 x))) := fun e he => by
          rw [← HY.out]
          have h5 := (HR6.out.below hb).setN HM6.out x
          rw [show ({ s with l := s.l.set k ⟨m1, v, u, true⟩ } : Rg).l.set k ⟨m1, v, x, true⟩ = s.l.set k ⟨m1, v, x, true⟩ from List.set_set ..] at h5
          exact ⟨_, he, h5, (HA6.out.trans (F' := Foot rb (.slice (some ⟨g, 0, none⟩) n cap)) (Apart.of_below hb) (fun _ _ h => h)).set (p := ⟨g, k * 4 + 3, none⟩) (.inl (.inr rfl)) _, Grew.refl _ _⟩
        clear hw6 hb
        go_wp2
        go_ret
        exact HEND.out _ rfl
end Go.Proofs.Ytanchjcifhbllaa
