/-
  Rebasing; Next; Pick.
  Conditions: the ring lies in memory; its numbers fit.
-/
import Derived.Test.YtanchjcifhbllaaCalls2
set_option linter.unusedVariables false
namespace Go.Proofs.Ytanchjcifhbllaa
open Go.RowKit Go.Sort

/-- The first k of them are shifted. -/
def reb (q k : Nat) (l : List Mb) : List Mb := (l.take k).map (shift q) ++ l.drop k
theorem reb_zero (q : Nat) (l : List Mb) : reb q 0 l = l := by simp [reb]
theorem reb_all (q : Nat) (l : List Mb) : reb q l.length l = l.map (shift q) := by simp [reb]
theorem reb_len (q k : Nat) (l : List Mb) : (reb q k l).length = l.length := by simp [reb]; omega
theorem reb_at {q k : Nat} {l : List Mb} {m : Mb} (h : l[k]? = some m) : (reb q k l)[k]? = some m := by
  have hk := (List.getElem?_eq_some_iff.1 h).1
  unfold reb
  rw [List.getElem?_append_right (by simp; omega)]
  simp only [List.length_map, List.length_take, Nat.min_eq_left (Nat.le_of_lt hk), Nat.sub_self, List.getElem?_drop, Nat.add_zero]
  exact h
theorem reb_succ {q k : Nat} {l : List Mb} {m : Mb} (h : l[k]? = some m) : (reb q k l).set k (shift q m) = reb q (k + 1) l := by
  have hk := (List.getElem?_eq_some_iff.1 h).1
  unfold reb
  have h2 : l.take (k + 1) = l.take k ++ [m] := by rw [List.take_add_one, h]; rfl
  rw [h2, drop_of h, List.map_append, List.set_append_right _ _ (by simp; omega)]
  simp only [List.length_map, List.length_take, Nat.min_eq_left (Nat.le_of_lt hk), Nat.sub_self, List.set_cons_zero]
  simp

def RebPost (W : World) (rb : Nat) (mv : Value) (s' : Rg) (e : Ending) (w' : World) : Prop := e = .returned (.tuple #[]) ∧ RingAt w' rb mv s' ∧ Apart (Foot rb mv) W w'
theorem keep_one {w : World} {g o : Nat} {u v : Value} (h : w.cell? ⟨g, o + 1, none⟩ = some v) : (w.setCell ⟨g, o + 3, none⟩ u).cell? ⟨g, o + 1, none⟩ = some v := by
  have e : (w.setCell ⟨g, o + 3, none⟩ u).cell? ⟨g, o + 1, none⟩ = w.cell? ⟨g, o + 1, none⟩ := World.cell?_setCell_other _ _ _ _ (by intro e; injection e with _ e _; omega)
  rw [e]
  exact h
set_option maxRecDepth 100000 in
set_option maxHeartbeats 2000000 in
theorem rebase_any (W : World) (rb : Nat) (mv : Value) (s : Rg) (C : Nat) (h : RingAt W rb mv s) (hf : Fit C s) (hlim : 0 < s.lim) (hl : C ≤ 1099511627777) :
    Calls Try.prog 30 #[.pointer (some ⟨rb, 0, none⟩)] W (RebPost W rb mv (rebaseR s)) := by
  have HR := Lib.hid h
  have HF := Lib.hid hf
  have HCL := Lib.hid hl
  have HFL := Lib.hid (floor_any W rb mv s C h hf hlim hl)
  obtain ⟨A, c, rfl⟩ := h.form
  obtain ⟨n, hn⟩ : ∃ n, s.l.length = n := ⟨_, rfl⟩
  have HN := Lib.hid hn
  rw [hn] at HR ⊢
  have hlen : n ≤ 32 := by have := hf.len; omega
  obtain ⟨g1, g2, g3⟩ := hf.floor
  unfold rebaseR wholeN
  obtain ⟨f1, hf1⟩ : ∃ x, (floorN s).1 = x := ⟨_, rfl⟩
  obtain ⟨f2, hf2⟩ : ∃ x, (floorN s).2 = x := ⟨_, rfl⟩
  rw [hf1, hf2] at HFL ⊢
  rw [hf2] at g1 g2 g3
  rw [hf1] at g3
  have HQL : Hid (f1 / f2 ≤ 1099511627777) := by
    show _ ≤ _
    have : f1 / f2 < 1099511627778 := (Nat.div_lt_iff_lt_mul g1).2 (by
      have : C * f2 ≤ 1099511627777 * f2 := Nat.mul_le_mul_right _ hl
      omega)
    omega
  obtain ⟨q, hq⟩ : ∃ q, f1 / f2 = q := ⟨_, rfl⟩
  have y1 : (f1 : Int) / (f2 : Int) = (q : Int) := by rw [← hq]; exact (Int.natCast_ediv f1 f2).symm
  have y2 : (f1 : Int).tdiv (f2 : Int) = (q : Int) := by rw [← hq]; rfl
  have y3 : ((f2 : Int) == 0) = false := beq_eq_false_iff_ne.2 (by omega)
  have y4 : ((f2 : Int) != 0) = true := by simp; omega
  have y5 : IntKind.u64.wrap (q : Int) = (q : Int) := u64_small (by have := HQL.out; omega)
  have y6 : 0 < f2 := g1
  have y7 : ¬ (f2 = 0) := by omega
  rw [hq] at HQL ⊢
  unfold passA at HFL
  have HRE := Lib.hid (reb_all q s.l)
  clear h hf hl hlim hf1 hf2 g1 g2 g3 hn hq
  have mixed : Try.prog.follows .mixedOrders = true := by kernel_rfl
  go_enter Try.func30, Try.ntmps30
  go_wp2_with fail
  refine HFL.out.mono ?_
  rintro e w1 ⟨rfl, hb⟩
  obtain ⟨N, hN⟩ : ∃ N, w1.heap.size = N := ⟨_, rfl⟩
  obtain ⟨w2, hw2⟩ : ∃ w2, w1.alloc (.cells #[.int .u64 f1, .int .u64 f2] 58) = w2 := ⟨_, rfl⟩
  obtain ⟨n0, n1, _⟩ := two_heads (show w2.heap[N]? = some (.cells #[.int .u64 f1, .int .u64 f2] 58 (0, 0)) by rw [← hw2]; exact alloc_block w1 _ hN)
  have HB2 : Hid (Below W.heap.size W w2) := by rw [← hw2]; exact hb.alloc hb.size _
  have HR2 := Lib.hid (HR.out.below HB2.out)
  obtain ⟨_, c1, _⟩ := HR2.out.heads
  clear hb
  go_wp2_with fail
  go_loopg [18] n (fun gg s18 wr => ∃ k : Nat, k ≤ n ∧ gg = n - k ∧ s18 = .int .i64 k ∧ RingAt wr rb (.slice A n c) { s with l := reb q k s.l } ∧ Apart (Foot rb (.slice A n c)) W wr)
  case atStart => exact ⟨0, Nat.zero_le _, by omega, rfl, by rw [reb_zero]; exact HR2.out, Apart.of_below HB2.out⟩
  case round =>
    obtain ⟨k, hk, hg, rfl, hr, ha⟩ := hrel
    have HRR := Lib.hid hr
    have HA := Lib.hid ha
    have HG := Lib.hid hg
    clear hr ha hg
    by_cases hlt : k < n
    · have hltz : (k : Int) < (n : Int) := by omega
      have hk0 : (0 : Int) ≤ (k : Int) := by omega
      obtain ⟨m, hm⟩ := ex_at (xs := s.l) (k := k) (by rw [HN.out]; exact hlt)
      have HM := Lib.hid hm
      obtain ⟨g, cap, hA, hgl, hgne, _, _, hat, hfr⟩ := HRR.out.at_ (reb_at hm)
      injection hA with hA hA1 hA2; clear hA1 hA2
      subst hA
      obtain ⟨_, c1', _⟩ := HRR.out.heads
      obtain ⟨_, _, _, f4, f5⟩ := HF.out.mem m (List.mem_of_getElem? hm)
      have f6 : m.n ≤ 1099511627777000 := by have : C * m.w ≤ 1099511627777 * 1000 := Nat.mul_le_mul HCL.out f4; omega
      obtain ⟨p, hp⟩ : ∃ p, q * m.w = p := ⟨_, rfl⟩
      have p6 : p ≤ 1099511627777000 := by rw [← hp]; have : q * m.w ≤ 1099511627777 * 1000 := Nat.mul_le_mul HQL.out f4; omega
      obtain ⟨z, hz⟩ : ∃ z, min m.n p = z := ⟨_, rfl⟩
      obtain ⟨r, hrr⟩ : ∃ r, m.n - p = r := ⟨_, rfl⟩
      have z1 : IntKind.u64.wrap ((q : Int) * (m.w : Int)) = (p : Int) := by rw [← hp, ← Int.natCast_mul]; exact u64_small (by omega)
      have z2 : min (m.n : Int) (p : Int) = (z : Int) := by omega
      have z3 : IntKind.u64.wrap ((m.n : Int) - (z : Int)) = (r : Int) := by
        have : (m.n : Int) - (z : Int) = (r : Int) := by omega
        rw [this]; exact u64_small (by omega)
      have z4 : IntKind.u64.wrap (m.w : Int) = (m.w : Int) := u64_small (by omega)
      have HSH : Hid ({ m with n := r } = shift q m) := by show _ = _; unfold shift; rw [hp, hrr]
      have HSET : Hid (RingAt (wr.drew.setCell ⟨g, k * 4 + 3, none⟩ (.int .u64 r)) rb (.slice (some ⟨g, 0, none⟩) n c) { s with l := reb q (k + 1) s.l }) := by
        have hrd : RingAt wr.drew rb (.slice (some ⟨g, 0, none⟩) n c) { s with l := reb q k s.l } := HRR.out.below (below_drewN (Below.refl _ wr) 1)
        have := hrd.setN (k := k) (reb_at hm) r
        rw [HSH.out] at this
        rw [← reb_succ hm]
        exact this
      have HS1 : Hid (∀ w' : World, w'.heap[g]? = wr.heap[g]? → w'.cell? ⟨g, k * 4 + 1, none⟩ = some (.int .i64 m.w) ∧ w'.cell? ⟨g, k * 4 + 3, none⟩ = some (.int .u64 m.n) ∧ w'.frozen? ⟨g, k * 4 + 3, none⟩ = false) := fun w' e => by
        obtain ⟨_, a1, _, a3⟩ := hat.keep e
        refine ⟨a1, a3, ?_⟩
        rw [← hfr (k * 4 + 3)]
        simp [World.frozen?, e]
      clear hat hfr hm f4 f5 hp hrr hz
      obtain ⟨m1, m2, m3, m4⟩ := m
      simp only at z1 z2 z3 z4 HS1 f6
      obtain ⟨d1, d3, d5⟩ := HS1.out wr.drew rfl
      go_wp2_with fail
      refine wp_region_N (S1 := fun W => W.cell? ⟨g, k * 4 + 1, none⟩ = some (.int .i64 m2)) (S2 := fun W => W.cell? ⟨g, k * 4 + 3, none⟩ = some (.int .u64 m3)) (N := fun i => i != 20) (by kernel_rfl) ?_
      change wpAnyN _ _ _ _ _ _ _ 21 (Array.replicate 21 false) _ _
      refine wpAnyN_take false (i := 0) (v := .pointer (some ⟨g, k * 4, none⟩)) rfl (by kernel_rfl) (by kernel_rfl) (by kernel_rfl) (fun _ _ _ h => h) (.inl ⟨by kernel_rfl, fun W hS => ?_⟩) ⟨d1, fun h => by cases h⟩ ?_
      · simp [execOp, Act.eval, go_sem]
      refine wpAnyN_take false (i := 1) (v := .pointer (some ⟨g, k * 4, none⟩)) rfl (by kernel_rfl) (by kernel_rfl) (by kernel_rfl) (fun _ _ _ h => h) (.inl ⟨by kernel_rfl, fun W hS => ?_⟩) ⟨d1, fun h => by cases h⟩ ?_
      · simp [execOp, Act.eval, Act.put, go_sem]
      refine wpAnyN_take false (i := 2) (v := .pointer (some ⟨g, k * 4 + 3, none⟩)) rfl (by kernel_rfl) (by kernel_rfl) (by kernel_rfl) (fun _ _ _ h => h) (.inl ⟨by kernel_rfl, fun W hS => ?_⟩) ⟨d1, fun h => by cases h⟩ ?_
      · simp [execOp, Act.eval, Act.put, go_sem]
      refine wpAnyN_take true (i := 3) (v := .int .u64 m3) rfl (by kernel_rfl) (by kernel_rfl) (by kernel_rfl) (fun _ _ _ h => h) (.inl ⟨by kernel_rfl, fun W hS => ?_⟩) ⟨d1, fun _ => d3⟩ ?_
      · simp [execOp, Act.eval, Act.put, go_sem, hS.2 rfl]
      simp only [Act.put]
      go_simp
      refine wpAnyN_take false (i := 4) (v := .pointer (some ⟨g, k * 4, none⟩)) rfl (by kernel_rfl) (by kernel_rfl) (by kernel_rfl) (fun _ _ _ h => h) (.inl ⟨by kernel_rfl, fun W hS => ?_⟩) ⟨d1, fun h => by cases h⟩ ?_
      · simp [execOp, Act.eval, go_sem]
      refine wpAnyN_take false (i := 5) (v := .pointer (some ⟨g, k * 4, none⟩)) rfl (by kernel_rfl) (by kernel_rfl) (by kernel_rfl) (fun _ _ _ h => h) (.inl ⟨by kernel_rfl, fun W hS => ?_⟩) ⟨d1, fun h => by cases h⟩ ?_
      · simp [execOp, Act.eval, Act.put, go_sem]
      refine wpAnyN_take false (i := 6) (v := .pointer (some ⟨g, k * 4 + 3, none⟩)) rfl (by kernel_rfl) (by kernel_rfl) (by kernel_rfl) (fun _ _ _ h => h) (.inl ⟨by kernel_rfl, fun W hS => ?_⟩) ⟨d1, fun h => by cases h⟩ ?_
      · simp [execOp, Act.eval, Act.put, go_sem]
      refine wpAnyN_take true (i := 7) (v := .int .u64 m3) rfl (by kernel_rfl) (by kernel_rfl) (by kernel_rfl) (fun _ _ _ h => h) (.inl ⟨by kernel_rfl, fun W hS => ?_⟩) ⟨d1, fun _ => d3⟩ ?_
      · simp [execOp, Act.eval, Act.put, go_sem, hS.2 rfl]
      simp only [Act.put]
      go_simp
      refine wpAnyN_take false (i := 8) (v := .int .u64 q) rfl (by kernel_rfl) (by kernel_rfl) (by kernel_rfl) (fun _ _ _ h => h) (.inl ⟨by kernel_rfl, fun W hS => ?_⟩) ⟨d1, fun h => by cases h⟩ ?_
      · simp [execOp, Act.eval, go_sem]
      refine wpAnyN_take false (i := 9) (v := .pointer (some ⟨g, k * 4, none⟩)) rfl (by kernel_rfl) (by kernel_rfl) (by kernel_rfl) (fun _ _ _ h => h) (.inl ⟨by kernel_rfl, fun W hS => ?_⟩) ⟨d1, fun h => by cases h⟩ ?_
      · simp [execOp, Act.eval, Act.put, go_sem]
      refine wpAnyN_take false (i := 10) (v := .pointer (some ⟨g, k * 4, none⟩)) rfl (by kernel_rfl) (by kernel_rfl) (by kernel_rfl) (fun _ _ _ h => h) (.inl ⟨by kernel_rfl, fun W hS => ?_⟩) ⟨d1, fun h => by cases h⟩ ?_
      · simp [execOp, Act.eval, Act.put, go_sem]
      refine wpAnyN_take false (i := 11) (v := .pointer (some ⟨g, k * 4, none⟩)) rfl (by kernel_rfl) (by kernel_rfl) (by kernel_rfl) (fun _ _ _ h => h) (.inl ⟨by kernel_rfl, fun W hS => ?_⟩) ⟨d1, fun h => by cases h⟩ ?_
      · simp [execOp, Act.eval, Act.put, go_sem]
      simp only [Act.put]
      go_simp
      refine wpAnyN_take false (i := 12) (v := .pointer (some ⟨g, k * 4 + 1, none⟩)) rfl (by kernel_rfl) (by kernel_rfl) (by kernel_rfl) (fun _ _ _ h => h) (.inl ⟨by kernel_rfl, fun W hS => ?_⟩) ⟨d1, fun h => by cases h⟩ ?_
      · simp [execOp, Act.eval, go_sem]
      refine wpAnyN_take false (i := 13) (v := .int .i64 m2) rfl (by kernel_rfl) (by kernel_rfl) (by kernel_rfl) (fun _ _ _ h => h) (.inl ⟨by kernel_rfl, fun W hS => ?_⟩) ⟨d1, fun h => by cases h⟩ ?_
      · simp [execOp, Act.eval, Act.put, go_sem, hS.1]
      refine wpAnyN_take false (i := 14) (v := .int .u64 m2) rfl (by kernel_rfl) (by kernel_rfl) (by kernel_rfl) (fun _ _ _ h => h) (.inl ⟨by kernel_rfl, fun W hS => ?_⟩) ⟨d1, fun h => by cases h⟩ ?_
      · simp [execOp, Act.eval, Act.put, go_sem, z4]
      refine wpAnyN_take false (i := 15) (v := .int .u64 p) rfl (by kernel_rfl) (by kernel_rfl) (by kernel_rfl) (fun _ _ _ h => h) (.inl ⟨by kernel_rfl, fun W hS => ?_⟩) ⟨d1, fun h => by cases h⟩ ?_
      · simp [execOp, Act.eval, Act.put, go_sem, z1]
      simp only [Act.put]
      go_simp
      refine wpAnyN_take false (i := 16) (v := .int .u64 z) rfl (by kernel_rfl) (by kernel_rfl) (by kernel_rfl) (fun _ _ _ h => h) (.inl ⟨by kernel_rfl, fun W hS => ?_⟩) ⟨d1, fun h => by cases h⟩ ?_
      · simp [execOp, Act.eval, go_sem, z2]
      refine wpAnyN_take false (i := 17) (v := .int .u64 r) rfl (by kernel_rfl) (by kernel_rfl) (by kernel_rfl) (fun _ _ _ h => h) (.inl ⟨by kernel_rfl, fun W hS => ?_⟩) ⟨d1, fun h => by cases h⟩ ?_
      · simp [execOp, Act.eval, Act.put, go_sem, z3]
      refine wpAnyN_take false (i := 18) (v := .pointer (some ⟨g, k * 4, none⟩)) rfl (by kernel_rfl) (by kernel_rfl) (by kernel_rfl) (fun _ _ _ h => h) (.inl ⟨by kernel_rfl, fun W hS => ?_⟩) ⟨d1, fun h => by cases h⟩ ?_
      · simp [execOp, Act.eval, Act.put, go_sem]
      refine wpAnyN_take false (i := 19) (v := .pointer (some ⟨g, k * 4 + 3, none⟩)) rfl (by kernel_rfl) (by kernel_rfl) (by kernel_rfl) (fun _ _ _ h => h) (.inl ⟨by kernel_rfl, fun W hS => ?_⟩) ⟨d1, fun h => by cases h⟩ ?_
      · simp [execOp, Act.eval, Act.put, go_sem]
      simp only [Act.put]
      go_simp
      refine wpAnyN_step (i := 20) (by kernel_rfl) rfl (by kernel_rfl) ?_
      intro K' hK
      try simp only [Act.put]
      go_simp
      refine hK.out _ _ (keep_one d1) (fun h => absurd h (by decide)) ?_
      refine wpAnyN_done (by kernel_rfl) ?_
      try simp only [Act.put]
      try go_simp
      go_wp2
      go_roundg (n - (k + 1))
      case measure => have := HG.out; omega
      case rel => exact ⟨k + 1, by omega, rfl, by go_num, HSET.out, HA.out.drewN 1 |>.set (p := ⟨g, k * 4 + 3, none⟩) (.inl (.inr rfl)) _⟩
    · have hltz : ¬ (k : Int) < (n : Int) := by omega
      have hkn : k = n := by omega
      rw [hkn] at HRR
      have HEND : Hid (∀ e, e = .returned (.tuple #[]) → RebPost W rb (.slice A n c) { s with l := s.l.map (shift q) } e wr) := fun e he => by
        refine ⟨he, ?_, HA.out⟩
        rw [← HRE.out, HN.out]
        exact HRR.out
      go_wp2
      refine bodyPost_end (results_none rfl _ _ _) rfl ?_
      exact HEND.out _ rfl

/-! ### Next, Pick -/
def pickV (s : Rg) : Value := match best s.l with | none => .tuple #[.int .i64 0, .bool false] | some x => .tuple #[.int .i64 x.2.id, .bool true]
set_option maxRecDepth 100000 in
set_option maxHeartbeats 1000000 in
theorem next_any (W : World) (rb : Nat) (mv : Value) (s : Rg) (h : RingAt W rb mv s) (hk : Okay s) :
    Calls Try.prog 19 #[.pointer (some ⟨rb, 0, none⟩)] W (RetB (pickV s) W) := by
  have HFI := Lib.hid (first_any W rb mv s s.lim h hk.fit hk.pos (by have := hk.hi; omega))
  have HR := Lib.hid h
  unfold pickV
  cases hb : best s.l with
  | none =>
    rw [hb] at HFI
    have e : idxI none = -1 := rfl
    rw [e] at HFI
    clear h hk hb e
    go_enter Try.func19, Try.ntmps19
    go_wp2_with fail
    refine HFI.out.mono ?_
    rintro e w1 ⟨rfl, hb⟩
    have HB := Lib.hid hb
    clear hb
    go_wp2
    go_ret2
    exact ⟨rfl, HB.out⟩
  | some x =>
    obtain ⟨k, m⟩ := x
    rw [hb] at HFI
    have e : idxI (some (k, m)) = (k : Int) := rfl
    rw [e] at HFI
    obtain ⟨hm, h2, h3⟩ := best_some hk.fit.pos hb
    simp only at hm
    have HM := Lib.hid hm
    have hkl := (List.getElem?_eq_some_iff.1 hm).1
    obtain ⟨n, hn⟩ : ∃ n, s.l.length = n := ⟨_, rfl⟩
    have HN := Lib.hid hn
    rw [hn] at hkl
    have hk1 : (k : Int) < (n : Int) := by omega
    have hk0 : (0 : Int) ≤ (k : Int) := by omega
    clear h hk hb e h2 h3 hm hn
    obtain ⟨m1, m2, m3, m4⟩ := m
    go_enter Try.func19, Try.ntmps19
    go_wp2_with fail
    refine HFI.out.mono ?_
    rintro e w1 ⟨rfl, hb⟩
    have HB := Lib.hid hb
    have HR1 := Lib.hid (HR.out.below hb)
    obtain ⟨_, c1, _⟩ := HR1.out.heads
    obtain ⟨g, cap, rfl, _, _, _, _, ⟨a0, _⟩, _⟩ := HR1.out.at_ HM.out
    rw [HN.out] at c1
    clear hb
    go_wp2
    go_ret2
    exact ⟨rfl, HB.out⟩
set_option maxRecDepth 100000 in
set_option maxHeartbeats 2000000 in
theorem pick_any (W : World) (rb : Nat) (mv : Value) (s : Rg) (h : RingAt W rb mv s) (hk : Okay s) :
    Calls Try.prog 15 #[.pointer (some ⟨rb, 0, none⟩)] W (MutPost W rb mv (pickV s) (pickA s).2) := by
  have HFI := Lib.hid (first_any W rb mv s s.lim h hk.fit hk.pos (by have := hk.hi; omega))
  have HR := Lib.hid h
  have HK := Lib.hid hk
  unfold pickV pickA
  cases hb : best s.l with
  | none =>
    rw [hb] at HFI
    have e : idxI none = -1 := rfl
    rw [e] at HFI
    have HEND := Lib.hid (fun (e : Ending) (w' : World) (hb : Below W.heap.size W w') (he : e = .returned (.tuple #[.int .i64 0, .bool false])) => mut_below h hb he)
    clear h hk hb e
    go_enter Try.func15, Try.ntmps15
    go_wp2_with fail
    refine HFI.out.mono ?_
    rintro e w1 ⟨rfl, hb⟩
    have HB := Lib.hid hb
    clear hb
    go_wp2
    go_ret2
    exact HEND.out _ _ HB.out rfl
  | some x =>
    obtain ⟨k, m⟩ := x
    rw [hb] at HFI
    have e : idxI (some (k, m)) = (k : Int) := rfl
    rw [e] at HFI
    obtain ⟨hm, h2, h3⟩ := best_some hk.fit.pos hb
    simp only at hm
    have HM := Lib.hid hm
    have hkl := (List.getElem?_eq_some_iff.1 hm).1
    obtain ⟨A, c, rfl⟩ := h.form
    obtain ⟨n, hn⟩ : ∃ n, s.l.length = n := ⟨_, rfl⟩
    have HN := Lib.hid hn
    rw [hn] at hkl HR h ⊢
    have hk1 : (k : Int) < (n : Int) := by omega
    have hk0 : (0 : Int) ≤ (k : Int) := by omega
    have hmn := (hk.mem (List.mem_of_getElem? hm)).2.2.1
    have hmb : m.n ≤ 1099511627776000 := by
      obtain ⟨⟨_, a, b⟩, _⟩ := hk.mem (List.mem_of_getElem? hm)
      have : (1099511627776 : Nat) * (m.n, m.w).2 ≤ 1099511627776 * 1000 := Nat.mul_le_mul_left _ a
      simp only at b this
      omega
    have HF0 : Hid (Fit (s.lim + 1) (pick0 s k m)) := hk.fit.pick1 hm
    simp only
    obtain ⟨sx, hsx⟩ : ∃ sx, pickR s k m = sx := ⟨_, rfl⟩
    have HSX := Lib.hid hsx
    rw [hsx]
    obtain ⟨lim, hlim⟩ : ∃ lim, s.lim = lim := ⟨_, rfl⟩
    have HLIM := Lib.hid hlim
    have HIFT := Lib.hid (fun (hl : lim ≤ m.n + 1) => show rebaseR (pick0 s k m) = sx by rw [← hsx]; unfold pickR; rw [if_pos (by rw [hlim]; exact hl)])
    have HIFF := Lib.hid (fun (hl : ¬ lim ≤ m.n + 1) => show pick0 s k m = sx by rw [← hsx]; unfold pickR; rw [if_neg (by rw [hlim]; exact hl)])
    obtain ⟨x, hx⟩ : ∃ x, m.n + 1 = x := ⟨_, rfl⟩
    have hx2 : (m.n : Int) + 1 = (x : Int) := by omega
    have hx3 : x ≤ 1099511627776001 := by omega
    rw [hx] at HIFT HIFF
    have HX := Lib.hid hx
    clear h hk hb e h2 h3 hm hn hsx hlim hx hmn
    have mixed : Try.prog.follows .mixedOrders = true := by kernel_rfl
    obtain ⟨m1, m2, m3, m4⟩ := m
    simp only at hx2 HX hmb
    go_enter Try.func15, Try.ntmps15
    go_wp2_with fail
    refine HFI.out.mono ?_
    rintro e w1 ⟨rfl, hb⟩
    have HB := Lib.hid hb
    have HR1 := Lib.hid (HR.out.below hb)
    obtain ⟨_, c1, _⟩ := HR1.out.heads
    obtain ⟨g, cap, hA, _, _, _, _, ⟨a0, a1, a2, a3⟩, hfr⟩ := HR1.out.at_ HM.out
    injection hA with hA hA1 hA2; clear hA1 hA2
    subst hA
    have b3 := hfr (k * 4 + 3)
    have HR2 : Hid (RingAt (w1.setCell ⟨g, k * 4 + 3, none⟩ (.int .u64 x)) rb (.slice (some ⟨g, 0, none⟩) n c) (pick0 s k ⟨m1, m2, m3, m4⟩)) := by
      have := HR1.out.setN HM.out x
      unfold pick0
      rw [HX.out]
      exact this
    have HA2 : Hid (Apart (Foot rb (.slice (some ⟨g, 0, none⟩) n c)) W (w1.setCell ⟨g, k * 4 + 3, none⟩ (.int .u64 x))) := (Apart.of_below HB.out).set (p := ⟨g, k * 4 + 3, none⟩) (.inl (.inr rfl)) _
    obtain ⟨w2, hw2⟩ : ∃ w2, w1.setCell ⟨g, k * 4 + 3, none⟩ (.int .u64 x) = w2 := ⟨_, rfl⟩
    rw [hw2] at HR2 HA2
    have HM2 : Hid ((pick0 s k ⟨m1, m2, m3, m4⟩).l[k]? = some ⟨m1, m2, x, m4⟩) := by
      show (s.l.set k _)[k]? = _
      rw [List.getElem?_set_self (List.getElem?_eq_some_iff.1 HM.out).1, HX.out]
    clear hfr hb
    go_wp2_with fail
    clear hw2 c1 a0 a1 a2 a3 b3
    obtain ⟨c0, c1, _⟩ := HR2.out.heads
    rw [show (pick0 s k ⟨m1, m2, m3, m4⟩).lim = lim from HLIM.out] at c0
    obtain ⟨g2, cap2, hA, _, _, _, _, ⟨a0, a1, a2, a3⟩, hfr⟩ := HR2.out.at_ HM2.out
    injection hA with hA hA1 hA2; clear hA1 hA2
    injection hA with hA
    injection hA with hA
    subst hA
    by_cases hl : lim ≤ x
    · have q1 : decide ((lim : Int) ≤ (x : Int)) = true := decide_eq_true (by omega)
      have q2 : (lim : Int) ≤ (x : Int) := by omega
      have HE := Lib.hid (HIFT.out hl)
      go_quiet (fail)
      clear a0 a1 a2 a3 hfr c0 c1
      have HR3 := Lib.hid (HR2.out.drewN nq)
      have HRB := Lib.hid (rebase_any (w2.drewN nq) rb _ _ (s.lim + 1) HR3.out HF0.out HK.out.pos (by have := HK.out.hi; omega))
      rw [HE.out] at HRB
      have HA3 := Lib.hid (HA2.out.drewN nq)
      generalize w2.drewN nq = w3 at *
      go_wp2_with fail
      refine HRB.out.mono ?_
      rintro e w4 ⟨rfl, k1, k2⟩
      have HEND : Hid (∀ e, e = .returned (.tuple #[.int .i64 m1, .bool true]) → MutPost W rb (.slice (some ⟨g, 0, none⟩) n c) (.tuple #[.int .i64 m1, .bool true]) sx e w4) := fun e he =>
        ⟨_, he, k1, HA3.out.trans k2 (fun _ _ h => h), Grew.refl _ _⟩
      have HN4 : Hid (∃ m', sx.l[k]? = some m' ∧ m'.id = m1) := by
        rw [← HE.out]
        refine ⟨shift (wholeN (pick0 s k ⟨m1, m2, m3, m4⟩)) ⟨m1, m2, x, m4⟩, ?_, rfl⟩
        show ((pick0 s k ⟨m1, m2, m3, m4⟩).l.map _)[k]? = _
        rw [List.getElem?_map, HM2.out]
        rfl
      obtain ⟨m', hm', hid'⟩ := HN4.out
      obtain ⟨g3, cap3, hA, _, _, _, _, ⟨a0, _⟩, _⟩ := k1.at_ hm'
      injection hA with hA hA1 hA2; clear hA1 hA2
      injection hA with hA
      injection hA with hA
      subst hA
      rw [hid'] at a0
      clear k1 k2 hm' hid'
      go_wp2
      go_ret2
      exact HEND.out _ rfl
    · have q1 : decide ((lim : Int) ≤ (x : Int)) = false := decide_eq_false (by omega)
      have q2 : ¬ (lim : Int) ≤ (x : Int) := by omega
      have HE := Lib.hid (HIFF.out hl)
      go_quiet (fail)
      have HR3 := Lib.hid (HR2.out.drewN nq)
      rw [HE.out] at HR3
      have HA3 := Lib.hid (HA2.out.drewN nq)
      have HEND : Hid (∀ e, e = .returned (.tuple #[.int .i64 m1, .bool true]) → MutPost W rb (.slice (some ⟨g, 0, none⟩) n c) (.tuple #[.int .i64 m1, .bool true]) sx e (w2.drewN nq)) := fun e he => ⟨_, he, HR3.out, HA3.out, Grew.refl _ _⟩
      go_wp2
      go_ret2
      exact HEND.out _ rfl
end Go.Proofs.Ytanchjcifhbllaa
