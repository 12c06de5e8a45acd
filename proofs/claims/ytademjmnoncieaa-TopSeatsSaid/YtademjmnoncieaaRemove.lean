/-
  Remove and Pop of the program.
  Conditions: the heap lies in memory, and is right.
-/
import Derived.Test.YtademjmnoncieaaSink
import Derived.Test.YtademjmnoncieaaNew
set_option linter.unusedVariables false
namespace Go.Proofs.Ytademjmnoncieaa
open Go.RowKit

theorem wrap64_small {i : Int} (h0 : -9223372036854775808 ≤ i) (h1 : i ≤ 9223372036854775807) : wrap64 i = i := IntWalk.wrap64_in i ⟨h0, h1⟩

/-- The row's block is the one that was, or a new one. -/
def Grew (w : World) (lv lv' : Value) : Prop := ∀ k, lv'.ownBlock = some k → lv.ownBlock = some k ∨ w.heap.size ≤ k
/-- Behind a call that changes keys. -/
def MutPost (W : World) (hb kb : Nat) (lv : Value) (v : Value) (C : Hs → Prop) (e : Ending) (wr : World) : Prop :=
  ∃ (lv' : Value) (s' : Hs), e = .returned v ∧ HeapAt wr hb kb lv' s' ∧ Okay s' ∧ C s' ∧ Apart (Foot hb kb lv) W wr ∧ Grew W lv lv'

/-- The row is cut by one. -/
theorem HeapAt.cut_line {W : World} {hb kb g cap : Nat} {s : Hs} {n : Nat} (h : HeapAt W hb kb (.slice (some ⟨g, 0, none⟩) n cap) s) (hm : 0 < s.m) :
    HeapAt (W.setCell ⟨hb, 1, none⟩ (.slice (some ⟨g, 0, none⟩) (s.m - 1) cap)) hb kb (.slice (some ⟨g, 0, none⟩) (s.m - 1) cap) { s with m := s.m - 1 } where
  head := by
    have := heap_setCell_at W hb 1 _ _ _ (.slice (some ⟨g, 0, none⟩) (s.m - 1) cap) h.head
    exact this
  keys := by
    obtain ⟨arr, e, r⟩ := h.keys
    exact ⟨arr, (Below.heap_setCell _ _ _ _ (fun e => h.ne1 e.symm)).trans e, r⟩
  line := by
    rcases h.line with ⟨h0, _⟩ | ⟨g', cap', cur, hv, e, h1, h2, h3, hc⟩
    · cases h0
    · injection hv with e1 e2 e3
      injection e1 with e1
      injection e1 with e1
      subst e1 e3
      refine .inr ⟨g, cap, cur, rfl, (Below.heap_setCell _ _ _ _ (fun e => h.ne2 (by have e' : g = hb := e; rw [e']; rfl))).trans e, by show s.m - 1 ≤ cap; omega, h2, h3, fun i hi => ?_⟩
      have hi' : i < s.m - 1 := hi
      exact hc i (by omega)
  ne1 := h.ne1
  ne2 := h.ne2
  ne3 := h.ne3
  n0 := h.n0
  n1 := h.n1
  m1 := by have := h.m1; show s.m - 1 ≤ 100000; omega
  w1 := h.w1
  w2 := h.w2

def cutC (s : Hs) (x : Nat) (s' : Hs) : Prop := s'.n = s.n ∧ s'.m + 1 = s.m ∧ s'.num = upd s.num x 0 ∧ s'.den = upd s.den x 0

theorem remove_not (W : World) (v : Value) (id : Int) (h : Calls Try.prog 24 #[v, .int .i64 id] W (Ret6 (.bool false) W)) : Calls Try.prog 12 #[v, .int .i64 id] W (Ret6 (.bool false) W) := by
  have HM := Lib.hid h
  clear h
  go_enter Try.func12, Try.ntmps12
  go_wp2_with fail
  refine HM.out.mono ?_
  rintro e w1 ⟨rfl, rfl⟩
  go_wp2
  go_ret
  exact ⟨rfl, rfl⟩

set_option maxRecDepth 100000 in
set_option maxHeartbeats 16000000 in
theorem remove_yes (W : World) (hb kb : Nat) (lv : Value) (s : Hs) (x : Nat) (h : HeapAt W hb kb lv s) (hk : Okay s) (hx : x < s.n) (hd : 0 < s.den x) :
    Calls Try.prog 12 #[.pointer (some ⟨hb, 0, none⟩), .int .i64 x] W (MutPost W hb kb lv (.bool true) (cutC s x)) := by
  have HH := has_any W hb kb lv s x h
  rw [hasKey_nat, decide_eq_true ⟨hx, hd⟩] at HH
  have HHAS := Lib.hid HH
  clear HH
  obtain ⟨hc1, hpl, hbut, hlast⟩ := hk.cut hx hd
  obtain ⟨g, cap, rfl, hcm, hcx, hg1, hg2, hg3, _, _⟩ := h.row (by omega)
  have HA := Lib.hid h
  have HK := Lib.hid hk
  have HC := Lib.hid hc1
  have HBUT := Lib.hid hbut
  have HLAST := Lib.hid hlast
  obtain ⟨c0, c1, _, _⟩ := h.heads
  obtain ⟨_, _, a2⟩ := h.key hx
  have m1 := h.m1
  obtain ⟨last, hla⟩ : ∃ last, s.m - 1 = last := ⟨_, rfl⟩
  have z0 : (s.m : Int) - 1 = (last : Int) := by omega
  have HSW := fun q => swap_any (W.drewN q) hb kb _ s (s.pl x) (s.m - 1) (h.drewN q) hpl (by omega) (hk.c.lo _ hpl) (hk.c.lo _ (by omega))
  have HX := Lib.hid hx
  have HPL := Lib.hid hpl
  have HM := Lib.hid (show s.m = last + 1 by omega)
  simp only [hla] at HSW
  have HLA := Lib.hid hla
  obtain ⟨p, hp⟩ : ∃ p, s.pl x = p := ⟨_, rfl⟩
  simp only [hp] at HSW
  rw [hp] at a2 hpl
  have HP := Lib.hid hp
  have HSW := Lib.hid HSW
  have z1 : (x : Int) < (s.n : Int) := by omega
  have hpb : p ≤ last := by omega
  have zw : wrap64 (last : Int) = (last : Int) := wrap64_small (by omega) (by omega)
  clear h hk hc1 hbut hlast hla hp
  obtain ⟨n, hn⟩ : ∃ n, s.n = n := ⟨_, rfl⟩
  obtain ⟨m, hm⟩ : ∃ m, s.m = m := ⟨_, rfl⟩
  have HN := Lib.hid hn
  have HMM := Lib.hid hm
  rw [hn] at c0 z1
  rw [hm] at c1 z0 hcm
  have hlm : last + 1 = m := by rw [← hm, HM.out]
  clear hn hm hx
  go_enter Try.func12, Try.ntmps12
  go_wp2_with fail
  refine HHAS.out.mono ?_
  rintro e w1 ⟨rfl, rfl⟩
  go_wp2_with fail
  go_quiet (fail)
  go_wp2_with fail
  refine (HSW.out _).mono ?_
  rintro e w1 ⟨rfl, h1, p1⟩
  obtain ⟨d0, d1, f0, f1⟩ := h1.heads
  have hm1 : (swapS s p last).m = m := HMM.out
  have hn1 : (swapS s p last).n = n := HN.out
  rw [hn1] at d0
  have d1' : w1.cell? ⟨hb, 1, none⟩ = some (.slice (some ⟨g, 0, none⟩) m cap) := by rw [← HMM.out]; exact d1
  obtain ⟨k0, k1, k2⟩ := h1.key (x := x) HX.out
  have kf0 := h1.keyf (x * 3)
  have kf1 := h1.keyf (x * 3 + 1)
  have kf2 := h1.keyf (x * 3 + 2)
  have q1 := h1.ne1
  have q2 := h1.ne1.symm
  have H2 := h1.cut_line (by rw [hm1, ← hlm]; omega)
  rw [show (swapS s p last).m - 1 = last by rw [hm1, ← hlm]; rfl] at H2
  have H3 := ((H2.set_num (x := x) HX.out (v := 0) (by decide)).set_den (x := x) HX.out (v := 0) (by decide)).set_pl (x := x) HX.out 0
  have H4 : HeapAt ((((w1.setCell ⟨hb, 1, none⟩ (.slice (some ⟨g, 0, none⟩) last cap)).setCell ⟨kb, x * 3, none⟩ (.int .u64 0)).setCell ⟨kb, x * 3 + 1, none⟩ (.int .u64 0)).setCell ⟨kb, x * 3 + 2, none⟩ (.int .i64 0)) hb kb (.slice (some ⟨g, 0, none⟩) last cap) (cutS s x) := by
    unfold cutS
    rw [HP.out, HLA.out]
    exact H3
  have P4 : Apart (Foot hb kb (.slice (some ⟨g, 0, none⟩) s.m cap)) W ((((w1.setCell ⟨hb, 1, none⟩ (.slice (some ⟨g, 0, none⟩) last cap)).setCell ⟨kb, x * 3, none⟩ (.int .u64 0)).setCell ⟨kb, x * 3 + 1, none⟩ (.int .u64 0)).setCell ⟨kb, x * 3 + 2, none⟩ (.int .i64 0)) :=
    (((((((Apart.refl _ W).drewN nq).trans p1 (fun _ _ h => h)).set (.inl (.inl rfl)) _).set (.inl (.inr (.inl rfl))) _).set (.inl (.inr (.inl rfl))) _).set (.inl (.inr (.inl rfl))) _)
  have HH4 := Lib.hid H4
  have HP4 := Lib.hid P4
  clear h1 p1 d1 H2 H3 H4 P4 f0 HSW HHAS HA
  generalize (swapS s p last).num x = v1 at k0
  generalize (swapS s p last).den x = v2 at k1
  generalize (swapS s p last).pl x = v3 at k2
  clear hm1 hn1 c0 c1 a2
  by_cases hpl' : p < last
  · have HS := Lib.hid (settle_any _ hb kb _ (cutS s x) p HH4.out HC.out (by show p < s.m - 1; rw [HLA.out]; exact hpl') (by have := HBUT.out (by rw [HP.out, HLA.out]; exact hpl'); rw [HP.out] at this; exact this))
    have z5 : (p : Int) < (last : Int) := by omega
    go_wp2_with fail
    refine HS.out.mono ?_
    rintro e w5 ⟨s5, rfl, l5, o5, h5, p5⟩
    have HH5 := Lib.hid h5
    have HP5 := Lib.hid (HP4.out.trans p5 (fun _ _ h => h))
    have HO5 := Lib.hid o5
    have HL5 := Lib.hid l5
    clear h5 p5 o5 l5
    go_wp2_with fail
    go_returns
    refine ⟨_, s5, rfl, HH5.out, HO5.out, ⟨HL5.out.1, ?_, HL5.out.2.2.1, HL5.out.2.2.2⟩, HP5.out, fun k hk => .inl hk⟩
    rw [HL5.out.2.1]
    show s.m - 1 + 1 = s.m
    rw [HM.out]
    rfl
  · have he : p = last := by omega
    have HOK := Lib.hid (show Okay (cutS s x) from ⟨HC.out, HLAST.out (by rw [HP.out, HLA.out, he])⟩)
    have z5 : ¬ (p : Int) < (last : Int) := by omega
    clear he
    go_wp2_with fail
    go_returns
    refine ⟨_, cutS s x, rfl, HH4.out, HOK.out, ⟨rfl, ?_, rfl, rfl⟩, HP4.out, fun k hk => .inl hk⟩
    show s.m - 1 + 1 = s.m
    rw [HM.out]
    rfl

/-- Remove, whatever the id. -/
def RemC (s : Hs) (id : Int) (s' : Hs) : Prop := if hasKey s id = true then cutC s id.toNat s' else s' = s
theorem remove_any (W : World) (hb kb : Nat) (lv : Value) (s : Hs) (id : Int) (h : HeapAt W hb kb lv s) (hk : Okay s) :
    Calls Try.prog 12 #[.pointer (some ⟨hb, 0, none⟩), .int .i64 id] W (MutPost W hb kb lv (.bool (hasKey s id)) (RemC s id)) := by
  by_cases hh : hasKey s id = true
  · obtain ⟨k0, k1, k2⟩ := of_decide_eq_true hh
    obtain ⟨x, rfl⟩ : ∃ x : Nat, id = x := ⟨id.toNat, by omega⟩
    rw [hh]
    refine (remove_yes W hb kb lv s x h hk (by simpa using k1) (by simpa using k2)).mono fun e w' hp => ?_
    obtain ⟨lv', s', h1, h2, h3, h4, h5, h6⟩ := hp
    refine ⟨lv', s', h1, h2, h3, ?_, h5, h6⟩
    unfold RemC
    rw [if_pos hh]
    simpa using h4
  · have e : hasKey s id = false := by simpa using hh
    rw [e]
    have HH := has_any W hb kb lv s id h
    rw [e] at HH
    refine (remove_not W _ id HH).mono fun e' w' hp => ?_
    obtain ⟨rfl, rfl⟩ := hp
    refine ⟨lv, s, rfl, h, hk, ?_, Apart.refl _ _, fun k hk => .inl hk⟩
    unfold RemC
    rw [if_neg hh]

/-- Pop: who stands first goes. -/
def PopC (s : Hs) (s' : Hs) : Prop := if s.m = 0 then s' = s else cutC s (s.L 0) s'
theorem pop_any (W : World) (hb kb : Nat) (lv : Value) (s : Hs) (h : HeapAt W hb kb lv s) (hk : Okay s) :
    Calls Try.prog 14 #[.pointer (some ⟨hb, 0, none⟩)] W (MutPost W hb kb lv (minV s) (PopC s)) := by
  by_cases h0 : s.m = 0
  · have hl := len_any W hb kb lv s h
    rw [h0] at hl
    refine (pop_none W _ hl).mono fun e w' hp => ?_
    obtain ⟨rfl, rfl⟩ := hp
    refine ⟨lv, s, ?_, h, hk, ?_, Apart.refl _ _, fun k hk => .inl hk⟩
    · unfold minV; rw [if_pos h0]
    · unfold PopC; rw [if_pos h0]
  · have hmin := min_any W hb kb lv s h
    have hlo := hk.c.lo 0 (by omega)
    have hon := hk.c.on 0 (by omega)
    unfold minV at hmin ⊢
    rw [if_neg h0] at hmin ⊢
    have HP := Lib.hid (show PopC s = cutC s (s.L 0) by funext s'; show (if s.m = 0 then _ else _) = _; rw [if_neg h0])
    have HM := Lib.hid hmin
    have HR := Lib.hid (remove_yes W hb kb lv s (s.L 0) h hk hlo hon)
    clear hmin hlo hon h hk h0
    generalize s.L 0 = x at *
    go_enter Try.func14, Try.ntmps14
    go_wp2_with fail
    refine HM.out.mono ?_
    rintro e w1 ⟨rfl, rfl⟩
    go_wp2_with fail
    refine HR.out.mono ?_
    rintro e w2 ⟨lv', s', rfl, h1, h2, h3, h4, h5⟩
    have H1 := Lib.hid h1
    have H2 := Lib.hid h2
    have H3 := Lib.hid h3
    have H4 := Lib.hid h4
    have H5 := Lib.hid h5
    clear h1 h2 h3 h4 h5
    go_wp2_with fail
    go_returns
    exact ⟨lv', s', rfl, H1.out, H2.out, by rw [HP.out]; exact H3.out, H4.out, H5.out⟩
end Go.Proofs.Ytademjmnoncieaa
