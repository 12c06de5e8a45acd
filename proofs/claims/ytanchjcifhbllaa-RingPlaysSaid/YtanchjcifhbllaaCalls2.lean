/-
  Leave, Block, Wake by contract.
  Conditions: the ring lies in memory; its numbers fit.
-/
import Derived.Test.YtanchjcifhbllaaCalls
set_option linter.unusedVariables false
namespace Go.Proofs.Ytanchjcifhbllaa
open Go.RowKit Go.Sort

theorem RingAt.lift {W : World} {rb : Nat} {mv : Value} {s : Rg} (h : RingAt W rb mv s) : s.lim = s.lim := rfl

set_option maxRecDepth 100000 in
set_option maxHeartbeats 1000000 in
theorem leave_any (W : World) (rb : Nat) (mv : Value) (s : Rg) (id : Int) (h : RingAt W rb mv s) (hk : Okay s) :
    Calls Try.prog 21 #[.pointer (some ⟨rb, 0, none⟩), .int .i64 id] W (MutPost W rb mv (.int .i64 (leaveA s id).1) (leaveA s id).2) := by
  have HR := Lib.hid h
  have HS := Lib.hid (seek_any W rb mv s id h hk.pos (by have := hk.len; omega))
  unfold leaveA
  cases hq : findK s.l id with
  | none =>
    rw [hq] at HS
    have HEND := Lib.hid (fun (e : Ending) (w' : World) (hb : Below W.heap.size W w') (he : e = .returned (.int .i64 10)) => mut_below h hb he)
    unfold seekV at HS
    simp only at HS
    clear h hk hq
    go_enter Try.func21, Try.ntmps21
    go_wp2_with fail
    refine HS.out.mono ?_
    rintro e w1 ⟨rfl, hb⟩
    have HB := Lib.hid hb
    clear hb
    go_wp2
    go_ret
    exact HEND.out _ _ HB.out rfl
  | some k =>
    rw [hq] at HS
    obtain ⟨m, hm, hid⟩ := findK_some hq
    clear hid
    have HFL := Lib.hid (fun (w' : World) (hb : Below W.heap.size W w') => floor_any w' rb _ s s.lim (h.below hb) hk.fit hk.pos (by have := hk.hi; omega))
    have HMEM := Lib.hid hm
    have HOK := Lib.hid hk
    have hkl := (List.getElem?_eq_some_iff.1 hm).1
    have hlen := hk.len
    obtain ⟨g, cap, hmv, hg1, hg2, hg3, hg4, hat, hfr⟩ := h.at_ hm
    subst hmv
    obtain ⟨n, hn⟩ : ∃ n, s.l.length = n := ⟨_, rfl⟩
    have HN := Lib.hid hn
    rw [hn] at hkl hlen hg3 h HR ⊢
    unfold seekV at HS
    simp only at HS
    unfold passA at HFL
    have hk1 : (k : Int) < (n : Int) := by omega
    have hk0 : (0 : Int) ≤ (k : Int) := by omega
    have hk2 : (k : Int) < 32 := by omega
    have HG := Lib.hid hg1
    have HGR := Lib.hid hg2
    have HAT := Lib.hid hat
    have HFR := Lib.hid hfr
    unfold leaveR
    obtain ⟨f1, hf1⟩ : ∃ x, (floorN s).1 = x := ⟨_, rfl⟩
    obtain ⟨f2, hf2⟩ : ∃ x, (floorN s).2 = x := ⟨_, rfl⟩
    rw [hf1, hf2] at HFL ⊢
    have HL := Lib.hid (show s.l.length ≤ 1000 by omega)
    have HK := Lib.hid (show k < s.l.length by omega)
    clear h hk hq hm hn hg1 hg2 hg3 hg4 hat hfr hf1 hf2 HMEM HOK
    go_enter Try.func21, Try.ntmps21
    go_wp2_with fail
    refine HS.out.mono ?_
    rintro e w1 ⟨rfl, hb⟩
    have HB := Lib.hid hb
    clear hb
    go_wp2_with fail
    refine (HFL.out _ HB.out).mono ?_
    rintro e w2 ⟨rfl, hb⟩
    have HB2 := Lib.hid (HB.out.trans (hb.mono HB.out.size))
    have HR2 := Lib.hid (HR.out.below HB2.out)
    obtain ⟨c0, c1, c2, c3, d0, d1, d2, d3⟩ := HR2.out.heads
    have HR3 := Lib.hid (HR2.out.last f1 f2)
    have HA3 := Lib.hid (((Apart.of_below (F := Foot rb (.slice (some ⟨g, 0, none⟩) n cap)) HB2.out).set (p := ⟨rb, 2, none⟩) (.inl (.inl rfl)) (.int .u64 f1)).set (p := ⟨rb, 3, none⟩) (.inl (.inl rfl)) (.int .u64 f2))
    have e1 : ((w2.setCell ⟨rb, 2, none⟩ (.int .u64 f1)).setCell ⟨rb, 3, none⟩ (.int .u64 f2)).cell? ⟨rb, 1, none⟩ = some (.slice (some ⟨g, 0, none⟩) n cap) := HR3.out.heads.2.1
    clear hb
    obtain ⟨w3, hw3⟩ : ∃ w3, (w2.setCell ⟨rb, 2, none⟩ (.int .u64 f1)).setCell ⟨rb, 3, none⟩ (.int .u64 f2) = w3 := ⟨_, rfl⟩
    rw [hw3] at HR3 HA3 e1
    have HDEL := Lib.hid (delete_any 0 _ s.l k w3 HR3.out.row HK.out HL.out)
    go_wp2_with fail
    clear hw3 c0 c1 c2 c3 d0 d1 d2 d3 e1
    refine HDEL.out.mono ?_
    rintro e w4 ⟨mv', rfl, k1, k2, k3⟩
    obtain ⟨A', c', rfl⟩ := own_form k1
    have hh4 := (k2.block rb HR3.out.lt (fun e => HR3.out.ne e)).trans HR3.out.head
    have HEND : Hid (∀ e, e = .returned (.int .i64 0) → MutPost W rb (.slice (some ⟨g, 0, none⟩) n cap) (.int .i64 0) { s with num := f1, den := f2, l := cutAt s.l k } e (w4.setCell ⟨rb, 1, none⟩ (.slice A' (cutAt s.l k).length c'))) := fun e he => by
      refine ⟨_, he, RingAt.row_ (s := { s with num := f1, den := f2 }) hh4 k1 (fun e => ?_), (HA3.out.trans k2 (fun x _ hx => .inr hx)).set (p := ⟨rb, 1, none⟩) (.inl (.inl rfl)) _, fun x hx => (k3 x hx).elim .inl (fun h => .inr (Nat.le_trans HA3.out.size h))⟩
      rcases k3 rb e with e | e
      · exact HR3.out.ne e
      · have := HR3.out.lt; omega
    have g1 : w4.cell? ⟨rb, 1, none⟩ = some (.slice (some ⟨g, 0, none⟩) n cap) := by simp [World.cell?, hh4]
    have g2 : w4.frozen? ⟨rb, 1, none⟩ = false := by simp [World.frozen?, hh4]
    clear k1 k2 k3 hh4
    go_wp2
    go_ret
    exact HEND.out _ rfl

set_option maxRecDepth 100000 in
set_option maxHeartbeats 1000000 in
theorem block_any (W : World) (rb : Nat) (mv : Value) (s : Rg) (id : Int) (h : RingAt W rb mv s) (hk : Okay s) :
    Calls Try.prog 22 #[.pointer (some ⟨rb, 0, none⟩), .int .i64 id] W (MutPost W rb mv (.int .i64 (blockA s id).1) (blockA s id).2) := by
  have HR := Lib.hid h
  have HS := Lib.hid (seek_any W rb mv s id h hk.pos (by have := hk.len; omega))
  unfold blockA
  cases hq : findK s.l id with
  | none =>
    rw [hq] at HS
    have HEND := Lib.hid (fun (e : Ending) (w' : World) (hb : Below W.heap.size W w') (he : e = .returned (.int .i64 10)) => mut_below h hb he)
    unfold seekV at HS
    simp only at HS
    clear h hk hq
    go_enter Try.func22, Try.ntmps22
    go_wp2_with fail
    refine HS.out.mono ?_
    rintro e w1 ⟨rfl, hb⟩
    have HB := Lib.hid hb
    clear hb
    go_wp2
    go_ret
    exact HEND.out _ _ HB.out rfl
  | some k =>
    rw [hq] at HS
    obtain ⟨m, hm, hid⟩ := findK_some hq
    clear hid
    have HFL := Lib.hid (fun (w' : World) (hb : Below W.heap.size W w') => floor_any w' rb _ s s.lim (h.below hb) hk.fit hk.pos (by have := hk.hi; omega))
    have HMEM := Lib.hid hm
    have HOK := Lib.hid hk
    have hkl := (List.getElem?_eq_some_iff.1 hm).1
    have hlen := hk.len
    obtain ⟨g, cap, hmv, hg1, hg2, hg3, hg4, hat, hfr⟩ := h.at_ hm
    subst hmv
    obtain ⟨n, hn⟩ : ∃ n, s.l.length = n := ⟨_, rfl⟩
    have HN := Lib.hid hn
    rw [hn] at hkl hlen hg3 h HR ⊢
    unfold seekV at HS
    simp only at HS
    unfold passA at HFL
    have hk1 : (k : Int) < (n : Int) := by omega
    have hk0 : (0 : Int) ≤ (k : Int) := by omega
    have hk2 : (k : Int) < 32 := by omega
    have HG := Lib.hid hg1
    have HGR := Lib.hid hg2
    have HAT := Lib.hid hat
    have HFR := Lib.hid hfr
    simp only [memK_at HMEM.out]
    cases hon : m.on
    · have HEND := Lib.hid (fun (e : Ending) (w' : World) (hb : Below W.heap.size W w') (he : e = .returned (.int .i64 15)) => mut_below h hb he)
      rw [if_neg (by decide)]
      clear h hk hq hm hn hg1 hg2 hg3 hg4 hat hfr HMEM HOK
      obtain ⟨m1, m2, m3, m4⟩ := m
      simp only at hon
      subst hon
      go_enter Try.func22, Try.ntmps22
      go_wp2_with fail
      refine HS.out.mono ?_
      rintro e w1 ⟨rfl, hb⟩
      have HB := Lib.hid hb
      obtain ⟨_, c1, _⟩ := (HR.out.below hb).heads
      obtain ⟨a0, a1, a2, a3⟩ := HAT.out.keep (hb.block g HG.out)
      clear hb
      go_wp2
      go_ret
      exact HEND.out _ _ HB.out rfl
    · rw [if_pos rfl]
      unfold blockR
      obtain ⟨f1, hf1⟩ : ∃ x, (floorN s).1 = x := ⟨_, rfl⟩
      obtain ⟨f2, hf2⟩ : ∃ x, (floorN s).2 = x := ⟨_, rfl⟩
      rw [hf1, hf2] at HFL ⊢
      clear h hk hq hm hn hg1 hg2 hg3 hg4 hat hfr hf1 hf2 HOK
      obtain ⟨m1, m2, m3, m4⟩ := m
      simp only at hon
      subst hon
      go_enter Try.func22, Try.ntmps22
      go_wp2_with fail
      refine HS.out.mono ?_
      rintro e w1 ⟨rfl, hb⟩
      have HB := Lib.hid hb
      obtain ⟨_, c1, _⟩ := (HR.out.below hb).heads
      obtain ⟨a0, a1, a2, a3⟩ := HAT.out.keep (hb.block g HG.out)
      clear hb
      go_wp2_with fail
      refine (HFL.out _ HB.out).mono ?_
      rintro e w2 ⟨rfl, hb⟩
      have HB2 := Lib.hid (HB.out.trans (hb.mono HB.out.size))
      have HR2 := Lib.hid (HR.out.below HB2.out)
      clear c1 a0 a1 a2 a3 hb
      obtain ⟨c0, c1, c2, c3, d0, d1, d2, d3⟩ := HR2.out.heads
      have HR3 := Lib.hid (HR2.out.last f1 f2)
      have HA3 := Lib.hid (((Apart.of_below (F := Foot rb (.slice (some ⟨g, 0, none⟩) n cap)) HB2.out).set (p := ⟨rb, 2, none⟩) (.inl (.inl rfl)) (.int .u64 f1)).set (p := ⟨rb, 3, none⟩) (.inl (.inl rfl)) (.int .u64 f2))
      obtain ⟨w3, hw3⟩ : ∃ w3, (w2.setCell ⟨rb, 2, none⟩ (.int .u64 f1)).setCell ⟨rb, 3, none⟩ (.int .u64 f2) = w3 := ⟨_, rfl⟩
      rw [hw3] at HR3 HA3
      obtain ⟨_, e1, _⟩ := HR3.out.heads
      obtain ⟨g', cap', hmv, _, _, _, _, ⟨_, _, a2, _⟩, hfr⟩ := HR3.out.at_ HMEM.out
      obtain rfl : g' = g := by injection hmv with h _ _; injection h with h; injection h with h; exact h.symm
      have a5 := hfr (k * 4 + 2)
      have HEND : Hid (∀ e, e = .returned (.int .i64 0) → MutPost W rb (.slice (some ⟨g', 0, none⟩) n cap) (.int .i64 0) { s with num := f1, den := f2, l := s.l.set k ⟨m1, m2, m3, false⟩ } e (w3.setCell ⟨g', k * 4 + 2, none⟩ (.bool false))) := fun e he =>
        ⟨_, he, HR3.out.setO (m := ⟨m1, m2, m3, true⟩) HMEM.out false, HA3.out.set (p := ⟨g', k * 4 + 2, none⟩) (.inl (.inr rfl)) _, Grew.refl _ _⟩
      clear hfr hmv
      go_wp2
      go_ret
      exact HEND.out _ rfl

set_option maxRecDepth 100000 in
set_option maxHeartbeats 1000000 in
theorem wake_any (W : World) (rb : Nat) (mv : Value) (s : Rg) (id : Int) (h : RingAt W rb mv s) (hk : Okay s) :
    Calls Try.prog 23 #[.pointer (some ⟨rb, 0, none⟩), .int .i64 id] W (MutPost W rb mv (.int .i64 (wakeA s id).1) (wakeA s id).2) := by
  have HR := Lib.hid h
  have HS := Lib.hid (seek_any W rb mv s id h hk.pos (by have := hk.len; omega))
  unfold wakeA
  cases hq : findK s.l id with
  | none =>
    rw [hq] at HS
    have HEND := Lib.hid (fun (e : Ending) (w' : World) (hb : Below W.heap.size W w') (he : e = .returned (.int .i64 10)) => mut_below h hb he)
    unfold seekV at HS
    simp only at HS
    clear h hk hq
    go_enter Try.func23, Try.ntmps23
    go_wp2_with fail
    refine HS.out.mono ?_
    rintro e w1 ⟨rfl, hb⟩
    have HB := Lib.hid hb
    clear hb
    go_wp2
    go_ret
    exact HEND.out _ _ HB.out rfl
  | some k =>
    rw [hq] at HS
    obtain ⟨m, hm, hid⟩ := findK_some hq
    clear hid
    have HFL := Lib.hid (fun (w' : World) (hb : Below W.heap.size W w') => floor_any w' rb _ s s.lim (h.below hb) hk.fit hk.pos (by have := hk.hi; omega))
    have HMEM := Lib.hid hm
    have HOK := Lib.hid hk
    have hkl := (List.getElem?_eq_some_iff.1 hm).1
    have hlen := hk.len
    obtain ⟨g, cap, hmv, hg1, hg2, hg3, hg4, hat, hfr⟩ := h.at_ hm
    subst hmv
    obtain ⟨n, hn⟩ : ∃ n, s.l.length = n := ⟨_, rfl⟩
    have HN := Lib.hid hn
    rw [hn] at hkl hlen hg3 h HR ⊢
    unfold seekV at HS
    simp only at HS
    unfold passA at HFL
    have hk1 : (k : Int) < (n : Int) := by omega
    have hk0 : (0 : Int) ≤ (k : Int) := by omega
    have hk2 : (k : Int) < 32 := by omega
    have HG := Lib.hid hg1
    have HGR := Lib.hid hg2
    have HAT := Lib.hid hat
    have HFR := Lib.hid hfr
    simp only [memK_at HMEM.out]
    cases hon : m.on
    · rw [if_neg (by decide)]
      unfold wakeR
      have HFRAC := Lib.hid hk.frac
      have HMEM2 := Lib.hid (hk.mem (List.mem_of_getElem? hm))
      obtain ⟨x, hx⟩ : ∃ x, clampN (floorN s) m.w m.n = x := ⟨_, rfl⟩
      have HX := Lib.hid hx
      obtain ⟨f, hf⟩ : ∃ f, floorN s = f := ⟨_, rfl⟩
      rw [hx]
      rw [hf] at HFL HFRAC HX
      clear h hk hq hm hn hg1 hg2 hg3 hg4 hat hfr HOK hx hf
      have HC := Lib.hid (fun (w' : World) h1 h2 h3 => clamp_any w' g (k * 4) m f h1 h2 h3 HFRAC.out HMEM2.out.2.1 HMEM2.out.2.2.1)
      rw [HX.out] at HC
      unfold passA at HC
      obtain ⟨m1, m2, m3, m4⟩ := m
      simp only at hon
      subst hon
      go_enter Try.func23, Try.ntmps23
      go_wp2_with fail
      refine HS.out.mono ?_
      rintro e w1 ⟨rfl, hb⟩
      have HB := Lib.hid hb
      obtain ⟨_, c1, _⟩ := (HR.out.below hb).heads
      obtain ⟨a0, a1, a2, a3⟩ := HAT.out.keep (hb.block g HG.out)
      clear hb
      go_wp2_with fail
      refine (HFL.out _ HB.out).mono ?_
      rintro e w2 ⟨rfl, hb⟩
      have HB2 := Lib.hid (HB.out.trans (hb.mono HB.out.size))
      have HR2 := Lib.hid (HR.out.below HB2.out)
      clear c1 a0 a1 a2 a3 hb
      go_wp2_with fail
      obtain ⟨g', cap', hmv, hg1, hg2, _, _, hat2, hfr2⟩ := HR2.out.at_ HMEM.out
      obtain rfl : g' = g := by injection hmv with h _ _; injection h with h; injection h with h; exact h.symm
      refine (HC.out w2 hat2 hg1 hfr2).mono ?_
      rintro e w3 ⟨w4, rfl, hb, rfl⟩
      have HB4 := Lib.hid (HB2.out.trans (hb.mono HB2.out.size))
      have HR4 := Lib.hid ((HR2.out.below hb).setN (m := ⟨m1, m2, m3, false⟩) HMEM.out x)
      have HA4 := Lib.hid ((Apart.of_below (F := Foot rb (.slice (some ⟨g', 0, none⟩) n cap)) HB4.out).set (p := ⟨g', k * 4 + 3, none⟩) (.inl (.inr rfl)) (.int .u64 x))
      obtain ⟨w5, hw5⟩ : ∃ w5, w4.setCell ⟨g', k * 4 + 3, none⟩ (.int .u64 x) = w5 := ⟨_, rfl⟩
      rw [hw5] at HR4 HA4 ⊢
      have HM5 := Lib.hid (show (s.l.set k ⟨m1, m2, x, false⟩)[k]? = some ⟨m1, m2, x, false⟩ from List.getElem?_set_self (List.getElem?_eq_some_iff.1 HMEM.out).1)
      obtain ⟨g2, cap2, hmv2, _, _, _, _, ⟨_, _, a2, _⟩, hfr⟩ := HR4.out.at_ HM5.out
      obtain rfl : g2 = g' := by injection hmv2 with h _ _; injection h with h; injection h with h; exact h.symm
      have a5 := hfr (k * 4 + 2)
      have HEND : Hid (∀ e, e = .returned (.int .i64 0) → MutPost W rb (.slice (some ⟨g2, 0, none⟩) n cap) (.int .i64 0) { s with l := s.l.set k ⟨m1, m2, x, true⟩ } e (w5.setCell ⟨g2, k * 4 + 2, none⟩ (.bool true))) := fun e he => by
        have h5 := HR4.out.setO HM5.out true
        rw [show ({ s with l := s.l.set k ⟨m1, m2, x, false⟩ } : Rg).l.set k ⟨m1, m2, x, true⟩ = s.l.set k ⟨m1, m2, x, true⟩ from List.set_set ..] at h5
        exact ⟨_, he, h5, HA4.out.set (p := ⟨g2, k * 4 + 2, none⟩) (.inl (.inr rfl)) _, Grew.refl _ _⟩
      clear hfr hmv hmv2 hw5 hat2 hfr2 hg1 hg2 hb
      go_wp2
      go_ret
      exact HEND.out _ rfl
    · have HEND := Lib.hid (fun (e : Ending) (w' : World) (hb : Below W.heap.size W w') (he : e = .returned (.int .i64 15)) => mut_below h hb he)
      rw [if_pos rfl]
      clear h hk hq hm hn hg1 hg2 hg3 hg4 hat hfr HMEM HOK
      obtain ⟨m1, m2, m3, m4⟩ := m
      simp only at hon
      subst hon
      go_enter Try.func23, Try.ntmps23
      go_wp2_with fail
      refine HS.out.mono ?_
      rintro e w1 ⟨rfl, hb⟩
      have HB := Lib.hid hb
      obtain ⟨_, c1, _⟩ := (HR.out.below hb).heads
      obtain ⟨a0, a1, a2, a3⟩ := HAT.out.keep (hb.block g HG.out)
      clear hb
      go_wp2
      go_ret
      exact HEND.out _ _ HB.out rfl
end Go.Proofs.Ytanchjcifhbllaa
