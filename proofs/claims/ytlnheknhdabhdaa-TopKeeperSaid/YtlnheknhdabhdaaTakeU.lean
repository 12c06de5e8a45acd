/-
  Take of a table of uint64.
  Conditions: the table lies in memory, and is right.
-/
import Derived.Test.YtlnheknhdabhdaaWriteU
set_option linter.unusedVariables false
namespace Go.Proofs.Ytlnheknhdabhdaa.TU
open Go.RowKit

theorem wrap64_nat {n : Nat} (h : n ≤ 100000) : wrap64 (n : Int) = (n : Int) := wrap64_small (by omega) (by omega)

theorem news_three (W : World) (B : Nat) (hB : W.heap.size = B) (t : Nat) (a b c : Value) : ∀ j u, [a, b, c][j]? = some u → (W.alloc (.cells #[a, b, c] t)).cell? ((⟨B, 0, none⟩ : Addr).add j) = some u := by
  subst hB
  exact World.news_of_block (heap_alloc_new W _)

theorem take_nil (W : World) (v : Int) : Calls Try.prog 17 #[.pointer none, Value.int .u64 v] W (Ret (.tuple #[.int .i64 0, .int .i64 0, .int .i64 2]) W) := by
  go_enter Try.func17, Try.ntmps17
  go_wp2
  go_returns
  exact ⟨rfl, rfl⟩
theorem take_bare (W : World) (tb : Nat) (v : Int) (h : Bare W tb) : Calls Try.prog 17 #[.pointer (some ⟨tb, 0, none⟩), Value.int .u64 v] W (Ret (.tuple #[.int .i64 0, .int .i64 0, .int .i64 2]) W) := by
  obtain ⟨c0, c1, c2⟩ := h.heads
  clear h
  go_enter Try.func17, Try.ntmps17
  go_wp2
  go_returns
  exact ⟨rfl, rfl⟩
set_option maxRecDepth 100000 in
set_option maxHeartbeats 4000000 in
theorem take_full (W : World) (tb : Nat) (sv fv : Value) (s : Ts Int) (v : Int) (h : TabAt W tb sv fv s) (hn : 0 < s.n) (hk : s.k = 0) (hm : s.m = s.n) :
    Calls Try.prog 17 #[.pointer (some ⟨tb, 0, none⟩), Value.int .u64 v] W (RetB (.tuple #[.int .i64 0, .int .i64 0, .int .i64 13]) W) := by
  obtain ⟨A, c, rfl⟩ := h.slots.form
  obtain ⟨A', c', rfl⟩ := h.free.form
  obtain ⟨c0, c1, c2, _, _⟩ := h.heads
  rw [hk] at c2
  rw [hm] at c1
  have y3 : ((s.n : Int) == 0) = false := by simp; omega
  generalize s.n = n at *
  clear h hk hm hn
  go_enter Try.func17, Try.ntmps17
  go_wp2_with fail
  go_quiet (fail)
  go_wp2
  go_returns
  exact ⟨rfl, below_drewN (Below.refl _ _) _⟩

set_option maxRecDepth 100000 in
set_option maxHeartbeats 16000000 in
theorem take_old (W : World) (tb : Nat) (sv fv : Value) (s : Ts Int) (v : Int) (h : TabAt W tb sv fv s) (ho : Okay s) (hk : 0 < s.k) :
    Calls Try.prog 17 #[.pointer (some ⟨tb, 0, none⟩), Value.int .u64 v] W (MutPost W tb sv fv (.tuple #[.int .i64 (s.fr (s.k - 1) : Nat), .int .i64 (s.gen (s.fr (s.k - 1) - 1) : Nat), .int .i64 0]) (takeOld s v)) := by
  have hn := ho.n0
  have hn1 := ho.n1
  have hmn := ho.mn
  have hcnt := ho.cnt
  have hlo := ho.lo (s.k - 1) (by omega)
  obtain ⟨last, hlast⟩ : ∃ x, s.k - 1 = x := ⟨_, rfl⟩
  obtain ⟨id, hid⟩ : ∃ x, s.fr last = x := ⟨_, rfl⟩
  obtain ⟨i, hi⟩ : ∃ x, id - 1 = x := ⟨_, rfl⟩
  obtain ⟨ge, hge⟩ : ∃ x, s.gen i = x := ⟨_, rfl⟩
  rw [hlast, hid] at hlo
  rw [hlast, hid, hi, hge]
  have HST := Lib.hid (show takeOld s v = { { s with k := s.k - 1 } with x := upd s.x i v, gen := upd s.gen i ge, use := upd s.use i true } by
    unfold takeOld
    rw [hlast, hid, hi, ← hge, upd_self])
  have hlk : last < s.k := by omega
  have him : i < s.m := by omega
  obtain ⟨gf, capf, rfl, hf1, hf2, _, hfc, _⟩ := h.free.row hk
  obtain ⟨gb, cap, rfl, _, _, _, _, _⟩ := h.slots.row (by omega)
  have HA := Lib.hid h
  have HI := Lib.hid him
  obtain ⟨c0, c1, c2, _, fz⟩ := h.heads
  have k0 := hfc last hlk
  rw [hid] at k0
  have y1 : (s.k : Int) - 1 = (last : Int) := by omega
  have bl : last ≤ 100000 := by omega
  have bi : i ≤ 100000 := by omega
  have y3 : ((s.n : Int) == 0) = false := by simp; omega
  have y4 : (0 : Int) ≤ (last : Int) := Int.natCast_nonneg last
  have y5 : (last : Int) < (s.k : Int) := Int.ofNat_lt.2 hlk
  have y6 : (id : Int) - 1 = (i : Int) := by omega
  have y8 : (i : Int) < (s.m : Int) := Int.ofNat_lt.2 him
  have y9 : last ≤ capf := by omega
  have y10 : (last : Int) ≤ (capf : Int) := Int.ofNat_le.2 y9
  have y11 : 0 < s.m := by omega
  have y2 : wrap64 (last : Int) = (last : Int) := wrap64_nat bl
  have y7 : wrap64 (i : Int) = (i : Int) := wrap64_nat bi
  have HM0 := Lib.hid y11
  have HL := Lib.hid hlast
  have HGE := Lib.hid hge
  obtain ⟨k, hkk⟩ : ∃ k, s.k = k := ⟨_, rfl⟩
  obtain ⟨m, hmm⟩ : ∃ m, s.m = m := ⟨_, rfl⟩
  obtain ⟨n, hnn⟩ : ∃ n, s.n = n := ⟨_, rfl⟩
  rw [hkk] at c2 y1 y5
  rw [hmm] at c1 y8
  rw [hnn] at c0 y3
  have HMM := Lib.hid hmm
  clear y11 bl bi h ho hk hn hn1 hmn hcnt hlo hlast hid hi hge hlk him hf1 hf2 hfc hkk hmm hnn
  go_enter Try.func17, Try.ntmps17
  go_upto_region 11 with fail
  generalize hw2 : W.setCell ⟨tb, 2, none⟩ (.slice (some ⟨gf, 0, none⟩) last capf) = w2
  have H2 : TabAt w2 tb (.slice (some ⟨gb, 0, none⟩) s.m cap) (.slice (some ⟨gf, 0, none⟩) last capf) { s with k := s.k - 1 } := by
    rw [← hw2, ← HL.out]
    exact HA.out.cut
  have P2 := Lib.hid (show Apart (Foot tb (.slice (some ⟨gb, 0, none⟩) s.m cap) (.slice (some ⟨gf, 0, none⟩) s.k capf)) W w2 by
    rw [← hw2]
    exact (Apart.refl _ W).set (.inl (.inl rfl)) _)
  obtain ⟨d0, d1, d2, _, _⟩ := H2.heads
  change w2.cell? ⟨tb, 1, none⟩ = some (.slice (some ⟨gb, 0, none⟩) s.m cap) at d1
  rw [HMM.out] at d1
  obtain ⟨gb', cap', hv, _, _, _, hc, hf⟩ := H2.slots.row HM0.out
  injection hv with e1 e2 e3
  injection e1 with e1
  injection e1 with e1
  subst e1 e3
  obtain ⟨k0', k1, k2⟩ := hc i HI.out
  change w2.cell? ⟨gb, i * 3 + 1, none⟩ = some (.int .i64 (s.gen i : Nat)) at k1
  rw [HGE.out] at k1
  change w2.cell? ⟨gb, i * 3, none⟩ = some (Value.int .u64 (s.x i)) at k0'
  change w2.cell? ⟨gb, i * 3 + 2, none⟩ = some (.bool (s.use i)) at k2
  generalize s.x i = x at k0'
  generalize s.use i = u at k2
  have f0 := hf (i * 3)
  have f1 := hf (i * 3 + 1)
  have f2 := hf (i * 3 + 2)
  have HH2 := Lib.hid H2
  clear H2 hw2 hc hf c0 c1 c2 fz k0 HA d0 d2 e2
  go_wp2_with fail
  go_returns
  refine ⟨.slice (some ⟨gb, 0, none⟩) s.m cap, .slice (some ⟨gf, 0, none⟩) last capf, rfl, ?_, ?_, Grew.refl _ _, fun k hk => .inl hk⟩
  · rw [HST.out]
    have h9 := HH2.out.put (i := i) HI.out v ge true
    exact h9
  · exact ((P2.out.set (p := ⟨gb, i * 3, none⟩) (.inl (.inr (.inl rfl))) _).set (p := ⟨gb, i * 3 + 1, none⟩) (.inl (.inr (.inl rfl))) _).set (p := ⟨gb, i * 3 + 2, none⟩) (.inl (.inr (.inl rfl))) _

set_option maxRecDepth 100000 in
set_option maxHeartbeats 16000000 in
theorem take_new (W : World) (tb : Nat) (sv fv : Value) (s : Ts Int) (v : Int) (h : TabAt W tb sv fv s) (ho : Okay s) (hk : s.k = 0) (hm : s.m < s.n) :
    Calls Try.prog 17 #[.pointer (some ⟨tb, 0, none⟩), Value.int .u64 v] W (MutPost W tb sv fv (.tuple #[.int .i64 ((s.m + 1 : Nat) : Int), .int .i64 1, .int .i64 0]) (takeNew s v)) := by
  obtain ⟨i0, hi0, hz0, hz1, hz2⟩ := info_parts infoSlot
  have hn1 := ho.n1
  obtain ⟨id, hid⟩ : ∃ x, s.m + 1 = x := ⟨_, rfl⟩
  rw [hid]
  have HST := Lib.hid (show takeNew s v = { ({ s with m := s.m + 1, x := upd s.x s.m 0, gen := upd s.gen s.m 1, use := upd s.use s.m false } : Ts Int) with x := upd (upd s.x s.m 0) s.m v, gen := upd (upd s.gen s.m 1) s.m 1, use := upd (upd s.use s.m false) s.m true } by
    unfold takeNew
    rw [upd_upd, upd_upd, upd_upd])
  obtain ⟨A, c, rfl⟩ := h.slots.form
  obtain ⟨A', c', rfl⟩ := h.free.form
  have HA := Lib.hid h
  obtain ⟨c0, c1, c2, fz, _⟩ := h.heads
  rw [hk] at c2
  have y3 : ((s.n : Int) == 0) = false := by simp; omega
  have y4 : (s.m : Int) < (s.n : Int) := Int.ofNat_lt.2 hm
  have HIDD := Lib.hid hid
  have mb : s.m ≤ 1024 := by omega
  obtain ⟨m, hmm⟩ : ∃ m, s.m = m := ⟨_, rfl⟩
  obtain ⟨n, hnn⟩ : ∃ n, s.n = n := ⟨_, rfl⟩
  rw [hmm] at c1 y4 mb hid
  rw [hnn] at c0 y3 y4
  have y6 : (id : Int) - 1 = (m : Int) := by omega
  have y8 : (m : Int) < (id : Int) := by omega
  have y7 : wrap64 (m : Int) = (m : Int) := wrap64_nat (by omega)
  have HID' := Lib.hid hid
  have HMM := Lib.hid hmm
  have HOWN := h.slots.own
  rw [hmm] at HOWN
  have HOWN := Lib.hid HOWN
  have HLT := Lib.hid h.lt1
  clear h ho hk hm hn1 hid hmm hnn
  go_enter Try.func17, Try.ntmps17
  go_wp2_with fail
  go_quiet (fail)
  have HOWQ := Lib.hid (show (W.drewN nq).ownsRow 0 71 3 (.slice A m c) m (slotCells s.x s.gen s.use m) from own_draw HOWN.out nq)
  have HAQ := Lib.hid (HA.out.drewN nq)
  have PQ := Lib.hid ((Apart.refl (Foot tb (.slice A s.m c) (.slice A' s.k c')) W).drewN nq)
  have HLQ := Lib.hid (show tb < (W.drewN nq).heap.size from HLT.out)
  generalize hwq : W.drewN nq = wq at *
  have e1 : wq.cell? ⟨tb, 1, none⟩ = some (.slice A m c) := by rw [← hwq]; exact c1
  have e2 : wq.cell? ⟨tb, 0, none⟩ = some (.int .i64 n) := by rw [← hwq]; exact c0
  clear c0 c1 c2 fz HA HOWN HLT hwq HIDD
  go_wp2_with (at_builtin; refine wpList_append_own_at _ rfl _ _ 67 rfl 0 71 i0 (.agg #[.int .u64 0, .int .i64 0, .bool false]) 3 24 Try.underlying67 hi0 hz0 hz1 hz2 rfl (by decide) _ _ _ rfl (HOWQ.out.alloc _) ⟨wq.heap.size, 0, none⟩ 1 1 [Value.int .u64 0, .int .i64 1, .bool false] rfl rfl ?c1 ?c2 ?c3 ?c4 ?c5 ?_)
  case c1 => exact news_three _ _ rfl _ _ _ _
  case c2 => intro u hu; simp at hu; rcases hu with rfl | rfl | rfl <;> rfl
  case c3 => unfold maxLen; omega
  case c4 => omega
  case c5 => omega
  intro v3 w3 hown3 hg3 _ hloc
  rw [HID'.out] at hown3
  obtain ⟨A3, n3, rfl⟩ := own_form hown3
  have e3 := (hg3.block tb (by simp; have := HLQ.out; omega) (fun e => HAQ.out.ne1 (by rw [HMM.out]; exact e.symm))).trans ((Below.heap_alloc wq _ tb HLQ.out).trans HAQ.out.head)
  have e4 : w3.cell? ⟨tb, 1, none⟩ = some (.slice A s.m c) := by simp [World.cell?, e3]
  have e5 : w3.frozen? ⟨tb, 1, none⟩ = false := by simp [World.frozen?, e3]
  rw [HMM.out] at e4
  have hloc' : (Value.slice A3 id n3).ownBlock = (Value.slice A s.m c).ownBlock ∨ (Value.slice A3 id n3).ownBlock = some (wq.alloc (.cells #[Value.int .u64 0, .int .i64 1, .bool false] 71)).heap.size := by rw [HMM.out, World.size_alloc]; exact hloc
  have hg3' : (wq.alloc (.cells #[Value.int .u64 0, .int .i64 1, .bool false] 71)).grownBy w3 (Value.slice A s.m c).ownBlock := by rw [HMM.out]; exact hg3
  obtain ⟨G1, G2, G3⟩ := HAQ.out.more (v := 0) (ge := 1) (u := false) (sv' := .slice A3 id n3) (by rw [HMM.out, HID'.out]; exact hown3) hg3' hloc'
  have HG1 := Lib.hid G1
  have HP3 := Lib.hid (PQ.out.trans G2 (fun _ _ h => h))
  have HG3 := Lib.hid (show Grew W (.slice A s.m c) (.slice A3 id n3) from fun k hk => (G3 k hk).imp (fun h => h) (fun h => Nat.le_trans PQ.out.size h))
  clear hown3 hg3 hloc hg3' hloc' e3 G1 G2 G3 e1 e2 HAQ PQ HOWQ HLQ
  go_upto_region 11 with fail
  generalize hw4 : w3.setCell ⟨tb, 1, none⟩ (.slice A3 id n3) = w4 at HG1 HP3 ⊢
  clear hw4 e4 e5
  obtain ⟨gb, cap, hv, _, _, _, hc, hf⟩ := HG1.out.slots.row (by show 0 < s.m + 1; omega)
  change Value.slice A3 id n3 = Value.slice (some ⟨gb, 0, none⟩) (s.m + 1) cap at hv
  injection hv with e1 e2 e3
  subst e1
  obtain ⟨d0, d1, d2, _, _⟩ := HG1.out.heads
  obtain ⟨k0, k1, k2⟩ := hc s.m (by show s.m < s.m + 1; omega)
  change w4.cell? ⟨gb, s.m * 3, none⟩ = some (Value.int .u64 (upd s.x s.m 0 s.m)) at k0
  change w4.cell? ⟨gb, s.m * 3 + 1, none⟩ = some (.int .i64 ((upd s.gen s.m 1 s.m : Nat) : Int)) at k1
  change w4.cell? ⟨gb, s.m * 3 + 2, none⟩ = some (.bool (upd s.use s.m false s.m)) at k2
  rw [upd_same, HMM.out] at k0 k1 k2
  have f0 := hf (m * 3)
  have f1 := hf (m * 3 + 1)
  have f2 := hf (m * 3 + 2)
  clear hc hf e2 e3 d0 d2
  go_wp2_with fail
  go_returns
  refine ⟨.slice (some ⟨gb, 0, none⟩) id n3, .slice A' s.k c', rfl, ?_, ?_, HG3.out, Grew.refl _ _⟩
  · rw [HST.out]
    have h9 := HG1.out.put (i := s.m) (by show s.m < s.m + 1; omega) v 1 true
    rw [HMM.out] at h9 ⊢
    exact h9
  · have hgb : Foot tb (.slice A s.m c) (.slice A' s.k c') gb ∨ W.heap.size ≤ gb := (HG3.out gb rfl).imp (fun h => .inr (.inl h)) (fun h => h)
    exact ((HP3.out.set (p := ⟨gb, m * 3, none⟩) hgb _).set (p := ⟨gb, m * 3 + 1, none⟩) hgb _).set (p := ⟨gb, m * 3 + 2, none⟩) hgb _
end Go.Proofs.Ytlnheknhdabhdaa.TU
