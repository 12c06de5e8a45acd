/-
  Rebasing; Next; Pick.
  Conditions: the ring lies in memory; its numbers fit.
-/
import Derived.Test.YtpfpojehcjmfnaaGreatT21
import Derived.Test.YtpfpojehcjmfnaaGreatT15

/-
  One more member is laid in; a count is brought near the floor; New; Join.
  Conditions: the ring lies in memory; its numbers fit.
-/
set_option linter.unusedVariables false
namespace Go.Proofs.YtpfpojehcjmfnaaGreat.Rn
open Go.RowKit Go.Sort

theorem four_heads {w : World} {N : Nat} {m : Mb} {T : TypeId} (h : w.heap[N]? = some (.cells #[.int .i64 m.id, .int .i64 m.w, .bool m.on, .int .u64 m.n] T (0, 0))) : MbAt w N 0 m := by
  refine ⟨?_, ?_, ?_, ?_⟩ <;> simp [World.cell?, h]
/-- The row of a ring is another one. -/
theorem RingAt.row_ {W : World} {rb : Nat} {mv mv' : Value} {s : Rg} {l : List Mb} (h : W.heap[rb]? = some (.cells #[.int .u64 s.lim, mv, .int .u64 s.num, .int .u64 s.den] 115 (0, 0))) (hr : RowM W mv' l) (hne : mv'.ownBlock ≠ some rb) :
    RingAt (W.setCell ⟨rb, 1, none⟩ mv') rb mv' { s with l := l } :=
  ⟨heap_setCell_mem _ _ _ _ _ _ _ h, own_keep hr fun k hk => Below.heap_setCell _ _ _ _ (fun e => hne (by rw [show rb = k from e.symm]; exact hk)), hne⟩
theorem idx_big (l : List Mb) (id : Nat) : (∃ k, l.findIdx? (fun x => decide (id < x.id)) = some k ∧ bigI l id = k ∧ k < l.length) ∨ (l.findIdx? (fun x => decide (id < x.id)) = none ∧ bigI l id = l.length) := by
  unfold bigI
  cases h : l.findIdx? fun x => decide (id < x.id) with
  | none => exact .inr ⟨rfl, rfl⟩
  | some k =>
    rw [List.findIdx?_eq_some_iff_getElem] at h
    exact .inl ⟨k, rfl, rfl, h.1⟩

theorem stepA {wb w1 : World} (h : Hid (Below wb.heap.size wb w1)) (o : Obj) : Below wb.heap.size wb (w1.alloc o) := h.out.alloc h.out.size o
/-- What a call answers that changes a ring and tells nothing. -/
def InsPost (W : World) (rb : Nat) (mv : Value) (s' : Rg) (e : Ending) (w' : World) : Prop := ∃ mv', e = .returned (.tuple #[]) ∧ RingAt w' rb mv' s' ∧ Apart (Foot rb mv) W w' ∧ Grew W mv mv'

set_option maxRecDepth 100000 in
set_option maxHeartbeats 2000000 in
theorem ins_any (W : World) (rb : Nat) (mv : Value) (s : Rg) (m : Mb) (h : RingAt W rb mv s) (hl : s.l.length ≤ 100) :
    Calls Tryz.prog 72 #[.pointer (some ⟨rb, 0, none⟩), mbA m] W (InsPost W rb mv { s with l := insM s.l m }) := by
  obtain ⟨N, hN⟩ : ∃ N, W.heap.size = N := ⟨_, rfl⟩
  have HSZ := Lib.hid hN
  have HR := Lib.hid h
  obtain ⟨W1, hW1⟩ : ∃ W1, W.alloc (.cells #[.int .i64 m.id, .int .i64 m.w, .bool m.on, .int .u64 m.n] 124) = W1 := ⟨_, rfl⟩
  have hb1 : Below W.heap.size W W1 := by rw [← hW1]; exact (Below.refl _ W).alloc (Nat.le_refl _) _
  have hn1 : W1.heap[N]? = some (.cells #[.int .i64 m.id, .int .i64 m.w, .bool m.on, .int .u64 m.n] 124 (0, 0)) := by rw [← hW1]; exact alloc_block W _ hN
  have HB1 := Lib.hid hb1
  have HN1 := Lib.hid hn1
  have HR1 := Lib.hid (h.below hb1)
  have HI := Lib.hid (index_any 118 #[.pointer (some ⟨N, 0, none⟩)] (by intro args w; rfl) (fun x => decide (m.id < x.id)) mv s.l W1 (isBig_pred W1 N m (four_heads hn1).1) (h.below hb1).row (by omega))
  obtain ⟨_, c1, _⟩ := (h.below hb1).heads
  obtain ⟨A, c, rfl⟩ := h.form
  obtain ⟨n, hn⟩ : ∃ n, s.l.length = n := ⟨_, rfl⟩
  have HNN := Lib.hid hn
  rw [hn] at c1 HI HR HR1 ⊢
  clear hn1 hb1 h
  rw [hn] at hl
  clear hn
  have HBIG := Lib.hid (idx_big s.l m.id)
  obtain ⟨j, hj⟩ : ∃ j, bigI s.l m.id = j := ⟨_, rfl⟩
  have HJ := Lib.hid hj
  unfold mbA
  go_enter Tryz.func72, Tryz.ntmps72
  go_wp2_with fail
  clear hW1 hN hj
  refine HI.out.mono ?_
  rintro e w2 ⟨rfl, hb⟩
  have HB := Lib.hid hb
  have HR2 := Lib.hid (HR1.out.below hb)
  have HN2 := Lib.hid (keep_block HN1.out hb)
  obtain ⟨_, c1', _⟩ := (HR1.out.below hb).heads
  clear hb c1
  have HX : Hid (∃ J : Int, idxO (s.l.findIdx? fun x => decide (m.id < x.id)) = J ∧ ((J < 0 ∧ j = n) ∨ (J = (j : Int) ∧ j < n))) := by
    refine ⟨_, rfl, ?_⟩
    rcases HBIG.out with ⟨k, k1, k2, k3⟩ | ⟨k1, k2⟩
    · rw [HJ.out] at k2
      subst k2
      rw [k1, ← HNN.out]
      exact .inr ⟨rfl, k3⟩
    · rw [HJ.out, HNN.out] at k2
      rw [k1]
      exact .inl ⟨by decide, k2⟩
  obtain ⟨J, hJ, hJ2⟩ := HX.out
  rw [hJ]
  clear hJ HX HBIG HI
  have hjn : j ≤ n := by omega
  have HJN := Lib.hid hjn
  have HC : Hid (∀ w', Below w2.heap.size w2 w' → w'.heap[w2.heap.size]? = some (.cells #[.int .i64 m.id, .int .i64 m.w, .bool m.on, .int .u64 m.n] 124 (0, 0)) →
      Calls Tryz.prog 119 #[.slice A n c, .int .i64 j, .slice (some ⟨w2.heap.size, 0, none⟩) 1 1] w' (RetM 0 124 (.slice A n c) (insM s.l m) w')) := fun w' hb hv => by
    have hr := (HR2.out.below hb).row
    have := insert_any 0 _ s.l j m w2.heap.size w' hr (by rw [HNN.out]; exact HJN.out) (by rw [HNN.out]; omega) (Nat.zero_le _) hv (fun e => by have := own_lt HR2.out.row e; omega)
    unfold insM
    rw [HJ.out]
    exact this
  have HS : Hid (∀ w', Apart (fun k => (Value.slice A n c).ownBlock = some k) w2 w' → w'.cell? ⟨rb, 1, none⟩ = some (.slice A n c) ∧ w'.frozen? ⟨rb, 1, none⟩ = false ∧ MbAt w' N 0 m ∧ Hid (Apart (fun k => (Value.slice A n c).ownBlock = some k) w2 w')) := fun w' ha => by
    obtain ⟨_, d, _, _, _, d2, _⟩ := HR2.out.heads
    have hb := ha.block rb HR2.out.lt (fun e => HR2.out.ne e)
    have hN' := ha.block N (heap_lt HN2.out) (fun e => by have := own_lt HR.out.row e; have := HSZ.out; omega)
    refine ⟨(cell_same hb 1).trans d, ?_, (four_heads (hN'.trans HN2.out)), Lib.hid ha⟩
    rw [← d2]
    simp [World.frozen?, hb]
  have HFIN : Hid (∀ mv' w4 w5, Below w2.heap.size w2 w4 → w5.ownsRow 0 124 4 mv' (insM s.l m).length (rowC (insM s.l m)) → Apart (fun k => (Value.slice A n c).ownBlock = some k) w4 w5 → Grew w4 (.slice A n c) mv' →
      InsPost W rb (.slice A n c) { s with l := insM s.l m } (.returned (.tuple #[])) (w5.setCell ⟨rb, 1, none⟩ mv')) := fun mv' w4 w5 hb h1 h2 h3 => by
    have HR4 := HR2.out.below hb
    have hb5 := h2.block rb HR4.lt (fun e => HR4.ne e)
    have hbw : Below W.heap.size W w4 := HB1.out.trans ((HB.out.trans (hb.mono HB.out.size)).mono HB1.out.size)
    refine ⟨mv', rfl, RingAt.row_ (hb5.trans HR4.head) h1 (fun e => ?_), ?_, fun k hk => ?_⟩
    · rcases h3 rb e with e | e
      · exact HR4.ne e
      · have := HR4.lt; omega
    · exact ((Apart.of_below hbw).trans h2 (fun x _ hx => .inr hx)).set (p := ⟨rb, 1, none⟩) (.inl (.inl rfl)) _
    · rcases h3 k hk with e | e
      · exact .inl e
      · exact .inr (Nat.le_trans hbw.size e)
  have mixed : Tryz.prog.follows .mixedOrders = true := by kernel_rfl
  have HDR := Lib.hid (show Below w2.heap.size w2 w2.drew from below_drewN (Below.refl _ _) 1)
  have hs2 := HS.out w2 (Apart.refl _ w2)
  obtain ⟨s1, s2, ⟨s3, s4, s5, s6⟩, _⟩ := hs2
  obtain ⟨m1, m2, m3, m4⟩ := m
  unfold MbAt at HS
  simp only at HS s3 s4 s5 s6 HC HFIN
  have HBOX : Hid (∀ w', Apart (fun k => k = rb ∨ (Value.slice A n c).ownBlock = some k) w2 w' → w'.cell? ⟨N, 0, none⟩ = some (.int .i64 m1) ∧ w'.cell? ⟨N, 1, none⟩ = some (.int .i64 m2) ∧ w'.cell? ⟨N, 2, none⟩ = some (.bool m4) ∧ w'.cell? ⟨N, 3, none⟩ = some (.int .u64 m3)) := fun w' ha => by
    have hN' := ha.block N (heap_lt HN2.out) (fun e => by
      rcases e with e | e
      · have := HR.out.lt; have := HSZ.out; omega
      · have := own_lt HR.out.row e; have := HSZ.out; omega)
    exact four_heads (m := ⟨m1, m2, m3, m4⟩) (hN'.trans HN2.out)
  have HLT := Lib.hid HR2.out.lt
  rcases hJ2 with ⟨y1, y2⟩ | ⟨y1, y2⟩
  · subst y2
    have y3 : decide (J < 0) = true := decide_eq_true y1
    go_wp2_with fail
    have HD := Lib.hid (show Apart (fun k => k = rb ∨ (Value.slice A j c).ownBlock = some k) w2 w2.drew from (Apart.refl _ w2).drew1)
    have HDC := Lib.hid (show w2.drew.cell? ⟨rb, 1, none⟩ = some (.slice A j c) from s1)
    refine wp_region_N (S1 := fun W => Apart (fun k => k = rb ∨ (Value.slice A j c).ownBlock = some k) w2 W) (S2 := fun W => W.cell? ⟨rb, 1, none⟩ = some (.slice A j c)) (N := fun i => i != 11) (by kernel_rfl) ?_
    change wpAnyN _ _ _ _ _ _ _ 12 (Array.replicate 12 false) _ _
    refine wpAnyN_take false (i := 0) (v := .pointer (some ⟨rb, 0, none⟩)) rfl (by kernel_rfl) (by kernel_rfl) (by kernel_rfl) (fun _ _ _ h => h) (.inl ⟨by kernel_rfl, fun W hS => ?_⟩) ⟨HD.out, fun h => by cases h⟩ ?_
    · simp [execOp, Act.eval, go_sem]
    refine wpAnyN_take false (i := 1) (v := .pointer (some ⟨rb, 0, none⟩)) rfl (by kernel_rfl) (by kernel_rfl) (by kernel_rfl) (fun _ _ _ h => h) (.inl ⟨by kernel_rfl, fun W hS => ?_⟩) ⟨HD.out, fun h => by cases h⟩ ?_
    · simp [execOp, Act.eval, Act.put, go_sem]
    refine wpAnyN_take false (i := 2) (v := .pointer (some ⟨rb, 0, none⟩)) rfl (by kernel_rfl) (by kernel_rfl) (by kernel_rfl) (fun _ _ _ h => h) (.inl ⟨by kernel_rfl, fun W hS => ?_⟩) ⟨HD.out, fun h => by cases h⟩ ?_
    · simp [execOp, Act.eval, Act.put, go_sem]
    refine wpAnyN_take false (i := 3) (v := .pointer (some ⟨rb, 1, none⟩)) rfl (by kernel_rfl) (by kernel_rfl) (by kernel_rfl) (fun _ _ _ h => h) (.inl ⟨by kernel_rfl, fun W hS => ?_⟩) ⟨HD.out, fun h => by cases h⟩ ?_
    · simp [execOp, Act.eval, Act.put, go_sem]
    refine wpAnyN_take true (i := 4) (v := .slice A j c) rfl (by kernel_rfl) (by kernel_rfl) (by kernel_rfl) (fun _ _ _ h => h) (.inl ⟨by kernel_rfl, fun W hS => ?_⟩) ⟨HD.out, fun _ => HDC.out⟩ ?_
    · simp [execOp, Act.eval, Act.put, go_sem, hS.2 rfl]
    refine wpAnyN_take false (i := 5) (v := .int .i64 j) rfl (by kernel_rfl) (by kernel_rfl) (by kernel_rfl) (fun _ _ _ h => h) (.inl ⟨by kernel_rfl, fun W hS => ?_⟩) ⟨HD.out, fun h => by cases h⟩ ?_
    · simp [execOp, Act.eval, Act.put, go_sem]
    refine wpAnyN_take false (i := 6) (v := .agg #[.int .i64 m1, .int .i64 m2, .bool m4, .int .u64 m3]) rfl (by kernel_rfl) (by kernel_rfl) (by kernel_rfl) (fun _ _ _ h => h) (.inl ⟨by kernel_rfl, fun W hS => ?_⟩) ⟨HD.out, fun h => by cases h⟩ ?_
    · simp [execOp, Act.eval, Act.put, go_sem, (HBOX.out W hS.1).1, (HBOX.out W hS.1).2.1, (HBOX.out W hS.1).2.2.1, (HBOX.out W hS.1).2.2.2]
    simp only [Act.put]
    go_simp
    refine wpAnyN_step (i := 7) (by kernel_rfl) rfl (by kernel_rfl) ?_
    intro K' hK
    try simp only [Act.put]
    go_simp
    have HE := Lib.hid (Apart.of_below (F := (fun k => k = rb ∨ (Value.slice A j c).ownBlock = some k)) (stepA HDR (.cells #[.int .i64 m1, .int .i64 m2, .bool m4, .int .u64 m3] 124)))
    refine hK.out _ _ (HE.out) (fun _ _ => ((stepA HDR _).cell (p := ⟨rb, 1, none⟩) HLT.out).trans s1) ?_
    refine wpAnyN_step (i := 8) (by kernel_rfl) rfl (by kernel_rfl) ?_
    intro K' hK
    try simp only [Act.put]
    go_simp
    refine (HC.out _ (stepA HDR _) (alloc_block _ _ rfl)).mono ?_
    rintro e w5 ⟨mv', rfl, h1, h2, h3⟩
    obtain ⟨A', c', rfl⟩ := own_form h1
    have HEND := Lib.hid (HFIN.out _ _ w5 (stepA HDR _) h1 h2 h3)
    have HA5 := Lib.hid (HE.out.trans h2 (fun x _ hx => .inr hx))
    obtain ⟨g1, g2, _⟩ := HS.out w5 ((Apart.of_below (stepA HDR _)).trans h2 (fun _ _ h => h))
    clear h1 h2 h3
    refine hK.out _ _ (HA5.out) (fun _ _ => g1) ?_
    refine wpAnyN_take false (i := 9) (v := .pointer (some ⟨rb, 0, none⟩)) rfl (by kernel_rfl) (by kernel_rfl) (by kernel_rfl) (fun _ _ _ h => h) (.inl ⟨by kernel_rfl, fun W hS => ?_⟩) ⟨HA5.out, fun h => by cases h⟩ ?_
    · simp [execOp, Act.eval, go_sem]
    refine wpAnyN_take false (i := 10) (v := .pointer (some ⟨rb, 1, none⟩)) rfl (by kernel_rfl) (by kernel_rfl) (by kernel_rfl) (fun _ _ _ h => h) (.inl ⟨by kernel_rfl, fun W hS => ?_⟩) ⟨HA5.out, fun h => by cases h⟩ ?_
    · simp [execOp, Act.eval, Act.put, go_sem]
    refine wpAnyN_step (i := 11) (by kernel_rfl) rfl (by kernel_rfl) ?_
    intro K' hK
    try simp only [Act.put]
    go_simp
    refine hK.out _ _ (HA5.out.set (p := ⟨rb, 1, none⟩) (.inl (.inl rfl)) _) (fun h => absurd h (by decide)) ?_
    refine wpAnyN_done (by kernel_rfl) ?_
    try simp only [Act.put]
    try go_simp
    go_wp2
    refine bodyPost_end (results_none rfl _ _ _) rfl ?_
    exact HEND.out
  · subst y1
    have y3 : decide ((j : Int) < 0) = false := decide_eq_false (by omega)
    go_wp2_with fail
    have HD := Lib.hid (show Apart (fun k => k = rb ∨ (Value.slice A n c).ownBlock = some k) w2 w2.drew from (Apart.refl _ w2).drew1)
    have HDC := Lib.hid (show w2.drew.cell? ⟨rb, 1, none⟩ = some (.slice A n c) from s1)
    refine wp_region_N (S1 := fun W => Apart (fun k => k = rb ∨ (Value.slice A n c).ownBlock = some k) w2 W) (S2 := fun W => W.cell? ⟨rb, 1, none⟩ = some (.slice A n c)) (N := fun i => i != 11) (by kernel_rfl) ?_
    change wpAnyN _ _ _ _ _ _ _ 12 (Array.replicate 12 false) _ _
    refine wpAnyN_take false (i := 0) (v := .pointer (some ⟨rb, 0, none⟩)) rfl (by kernel_rfl) (by kernel_rfl) (by kernel_rfl) (fun _ _ _ h => h) (.inl ⟨by kernel_rfl, fun W hS => ?_⟩) ⟨HD.out, fun h => by cases h⟩ ?_
    · simp [execOp, Act.eval, go_sem]
    refine wpAnyN_take false (i := 1) (v := .pointer (some ⟨rb, 0, none⟩)) rfl (by kernel_rfl) (by kernel_rfl) (by kernel_rfl) (fun _ _ _ h => h) (.inl ⟨by kernel_rfl, fun W hS => ?_⟩) ⟨HD.out, fun h => by cases h⟩ ?_
    · simp [execOp, Act.eval, Act.put, go_sem]
    refine wpAnyN_take false (i := 2) (v := .pointer (some ⟨rb, 0, none⟩)) rfl (by kernel_rfl) (by kernel_rfl) (by kernel_rfl) (fun _ _ _ h => h) (.inl ⟨by kernel_rfl, fun W hS => ?_⟩) ⟨HD.out, fun h => by cases h⟩ ?_
    · simp [execOp, Act.eval, Act.put, go_sem]
    refine wpAnyN_take false (i := 3) (v := .pointer (some ⟨rb, 1, none⟩)) rfl (by kernel_rfl) (by kernel_rfl) (by kernel_rfl) (fun _ _ _ h => h) (.inl ⟨by kernel_rfl, fun W hS => ?_⟩) ⟨HD.out, fun h => by cases h⟩ ?_
    · simp [execOp, Act.eval, Act.put, go_sem]
    refine wpAnyN_take true (i := 4) (v := .slice A n c) rfl (by kernel_rfl) (by kernel_rfl) (by kernel_rfl) (fun _ _ _ h => h) (.inl ⟨by kernel_rfl, fun W hS => ?_⟩) ⟨HD.out, fun _ => HDC.out⟩ ?_
    · simp [execOp, Act.eval, Act.put, go_sem, hS.2 rfl]
    refine wpAnyN_take false (i := 5) (v := .int .i64 j) rfl (by kernel_rfl) (by kernel_rfl) (by kernel_rfl) (fun _ _ _ h => h) (.inl ⟨by kernel_rfl, fun W hS => ?_⟩) ⟨HD.out, fun h => by cases h⟩ ?_
    · simp [execOp, Act.eval, Act.put, go_sem]
    refine wpAnyN_take false (i := 6) (v := .agg #[.int .i64 m1, .int .i64 m2, .bool m4, .int .u64 m3]) rfl (by kernel_rfl) (by kernel_rfl) (by kernel_rfl) (fun _ _ _ h => h) (.inl ⟨by kernel_rfl, fun W hS => ?_⟩) ⟨HD.out, fun h => by cases h⟩ ?_
    · simp [execOp, Act.eval, Act.put, go_sem, (HBOX.out W hS.1).1, (HBOX.out W hS.1).2.1, (HBOX.out W hS.1).2.2.1, (HBOX.out W hS.1).2.2.2]
    simp only [Act.put]
    go_simp
    refine wpAnyN_step (i := 7) (by kernel_rfl) rfl (by kernel_rfl) ?_
    intro K' hK
    try simp only [Act.put]
    go_simp
    have HE := Lib.hid (Apart.of_below (F := (fun k => k = rb ∨ (Value.slice A n c).ownBlock = some k)) (stepA HDR (.cells #[.int .i64 m1, .int .i64 m2, .bool m4, .int .u64 m3] 124)))
    refine hK.out _ _ (HE.out) (fun _ _ => ((stepA HDR _).cell (p := ⟨rb, 1, none⟩) HLT.out).trans s1) ?_
    refine wpAnyN_step (i := 8) (by kernel_rfl) rfl (by kernel_rfl) ?_
    intro K' hK
    try simp only [Act.put]
    go_simp
    refine (HC.out _ (stepA HDR _) (alloc_block _ _ rfl)).mono ?_
    rintro e w5 ⟨mv', rfl, h1, h2, h3⟩
    obtain ⟨A', c', rfl⟩ := own_form h1
    have HEND := Lib.hid (HFIN.out _ _ w5 (stepA HDR _) h1 h2 h3)
    have HA5 := Lib.hid (HE.out.trans h2 (fun x _ hx => .inr hx))
    obtain ⟨g1, g2, _⟩ := HS.out w5 ((Apart.of_below (stepA HDR _)).trans h2 (fun _ _ h => h))
    clear h1 h2 h3
    refine hK.out _ _ (HA5.out) (fun _ _ => g1) ?_
    refine wpAnyN_take false (i := 9) (v := .pointer (some ⟨rb, 0, none⟩)) rfl (by kernel_rfl) (by kernel_rfl) (by kernel_rfl) (fun _ _ _ h => h) (.inl ⟨by kernel_rfl, fun W hS => ?_⟩) ⟨HA5.out, fun h => by cases h⟩ ?_
    · simp [execOp, Act.eval, go_sem]
    refine wpAnyN_take false (i := 10) (v := .pointer (some ⟨rb, 1, none⟩)) rfl (by kernel_rfl) (by kernel_rfl) (by kernel_rfl) (fun _ _ _ h => h) (.inl ⟨by kernel_rfl, fun W hS => ?_⟩) ⟨HA5.out, fun h => by cases h⟩ ?_
    · simp [execOp, Act.eval, Act.put, go_sem]
    refine wpAnyN_step (i := 11) (by kernel_rfl) rfl (by kernel_rfl) ?_
    intro K' hK
    try simp only [Act.put]
    go_simp
    refine hK.out _ _ (HA5.out.set (p := ⟨rb, 1, none⟩) (.inl (.inl rfl)) _) (fun h => absurd h (by decide)) ?_
    refine wpAnyN_done (by kernel_rfl) ?_
    try simp only [Act.put]
    try go_simp
    go_wp2
    refine bodyPost_end (results_none rfl _ _ _) rfl ?_
    exact HEND.out
end Go.Proofs.YtpfpojehcjmfnaaGreat.Rn

/-
  A count is brought near a floor.
  Conditions: the member lies in memory; the floor is a fraction that fits.
-/
set_option linter.unusedVariables false
namespace Go.Proofs.YtpfpojehcjmfnaaGreat.Rn
open Go.RowKit Go.Sort

end Go.Proofs.YtpfpojehcjmfnaaGreat.Rn

/-
  New, Join, Leave, Block by contract.
  Conditions: the ring lies in memory; its numbers fit.
-/
set_option linter.unusedVariables false
namespace Go.Proofs.YtpfpojehcjmfnaaGreat.Rn
open Go.RowKit Go.Sort

/-- A ring that New made, whatever was called since. -/
structure Okay (s : Rg) : Prop where
  lo : 2048 ≤ s.lim
  hi : s.lim ≤ 1099511627776
  fit : Fit s.lim s
theorem Okay.pos {s : Rg} (h : Okay s) : 0 < s.lim := by have := h.lo; omega
theorem Okay.frac {s : Rg} (h : Okay s) : Frac (floorN s) := by
  obtain ⟨a, b, c⟩ := h.fit.floor
  exact ⟨a, b, Nat.le_trans c (Nat.mul_le_mul_right _ h.hi)⟩
theorem Okay.mem {s : Rg} (h : Okay s) {m : Mb} (hm : m ∈ s.l) : Frac (m.n, m.w) ∧ m.w ≤ 1000 ∧ m.n < 18446744073709551616 ∧ m.id ≤ 200 := by
  obtain ⟨a, b, c, d, e⟩ := h.fit.mem m hm
  have k : m.n ≤ 1099511627776 * m.w := Nat.le_trans e (Nat.mul_le_mul_right _ h.hi)
  exact ⟨⟨c, d, k⟩, d, by omega, b⟩
theorem Okay.len {s : Rg} (h : Okay s) : s.l.length ≤ 32 := h.fit.len
theorem Okay.call {s : Rg} (h : Okay s) (kind id w : Int) : Okay (callA s kind id w).2 := by
  obtain ⟨a, b⟩ := h.fit.call kind id w
  exact ⟨by rw [b]; exact h.lo, by rw [b]; exact h.hi, by rw [b]; exact a⟩
theorem Okay.pick {s : Rg} (h : Okay s) : Okay (pickA s).2 := by
  obtain ⟨a, b⟩ := h.fit.pickA
  exact ⟨by rw [b]; exact h.lo, by rw [b]; exact h.hi, by rw [b]; exact a⟩
def newR (L : Nat) : Rg := ⟨L, 0, 1, []⟩
theorem okay_new {L : Nat} (h1 : 2048 ≤ L) (h2 : L ≤ 1099511627776) : Okay (newR L) :=
  ⟨h1, h2, ⟨show 0 < L by omega, Nat.zero_le _, fun m hm => (by cases hm), show 0 < 1 by decide, show 1 ≤ 1000 by decide, Nat.zero_le _, List.Pairwise.nil⟩⟩

def NewPost (W : World) (L : Nat) (e : Ending) (w' : World) : Prop := e = .returned (.tuple #[.pointer (some ⟨W.heap.size, 0, none⟩), .int .i64 0]) ∧ RingAt w' W.heap.size (.slice none 0 0) (newR L) ∧ Below W.heap.size W w'
theorem new_ok (L : Nat) (h1 : 2048 ≤ L) (h2 : L ≤ 1099511627776) (W : World) : Calls Tryz.prog 34 #[.int .i64 L] W (NewPost W L) := by
  have q1 : decide ((L : Int) < 2048) = false := decide_eq_false (by omega)
  have q2 : decide (1099511627776 < (L : Int)) = false := decide_eq_false (by omega)
  have q3 : (L : Int) ≤ 1099511627776 := by omega
  have HEND : Hid (NewPost W L (.returned (.tuple #[.pointer (some ⟨W.heap.size, 0, none⟩), .int .i64 0])) (W.alloc (.cells #[.int .u64 L, .slice none 0 0, .int .u64 0, .int .u64 1] 115))) :=
    ⟨rfl, ⟨heap_alloc_new W _, World.ownsRow_nil _ _ _ _, fun e => by cases e⟩, (Below.refl _ _).alloc (Nat.le_refl _) _⟩
  go_enter Tryz.func34, Tryz.ntmps34
  go_wp2
  go_ret2
  exact HEND.out

set_option maxRecDepth 100000 in
set_option maxHeartbeats 1000000 in
theorem join_any (W : World) (rb : Nat) (mv : Value) (s : Rg) (id w : Int) (h : RingAt W rb mv s) (hk : Okay s) :
    Calls Tryz.prog 35 #[.pointer (some ⟨rb, 0, none⟩), .int .i64 id, .int .i64 w] W (MutPost W rb mv (.int .i64 (joinA s id w).1) (joinA s id w).2) := by
  have HM := Lib.hid (isMade_any W rb mv s h hk.pos)
  have HR := Lib.hid h
  have HK := Lib.hid hk
  by_cases h1 : id < 1 ∨ 200 < id
  · have HJ : Hid (joinA s id w = (20, s)) := by unfold joinA; rw [if_pos h1]; exact rfl
    rw [HJ.out]
    have HEND := Lib.hid (fun (e : Ending) (he : e = .returned (.int .i64 20)) => mut_below h (Below.refl _ W) he)
    clear h hk
    by_cases h2 : id < 1
    · have q1 : decide (id < 1) = true := decide_eq_true h2
      go_enter Tryz.func35, Tryz.ntmps35
      go_wp2_with (go_at_call 67; refine HM.out.mono ?_; rintro e w' ⟨rfl, rfl⟩)
      go_ret
      exact HEND.out _ rfl
    · have q1 : decide (id < 1) = false := decide_eq_false h2
      have q2 : decide (200 < id) = true := decide_eq_true (by omega)
      go_enter Tryz.func35, Tryz.ntmps35
      go_wp2_with (go_at_call 67; refine HM.out.mono ?_; rintro e w' ⟨rfl, rfl⟩)
      go_ret
      exact HEND.out _ rfl
  · have q1 : decide (id < 1) = false := decide_eq_false (by omega)
    have q2 : decide (200 < id) = false := decide_eq_false (by omega)
    have HW := Lib.hid (isWeight_any w W)
    by_cases h2 : w < 1 ∨ 1000 < w
    · have HJ : Hid (joinA s id w = (22, s)) := by unfold joinA; rw [if_neg h1, if_pos h2]; exact rfl
      rw [HJ.out]
      rw [decide_eq_false (by omega : ¬ (1 ≤ w ∧ w ≤ 1000))] at HW
      have HEND := Lib.hid (fun (e : Ending) (he : e = .returned (.int .i64 22)) => mut_below h (Below.refl _ W) he)
      clear h hk h1 h2
      go_enter Tryz.func35, Tryz.ntmps35
      go_wp2_with (first | (go_at_call 67; refine HM.out.mono ?_; rintro e w' ⟨rfl, rfl⟩) | (go_at_call 68; refine HW.out.mono ?_; rintro e w' ⟨rfl, rfl⟩))
      go_ret
      exact HEND.out _ rfl
    · rw [decide_eq_true (by omega : 1 ≤ w ∧ w ≤ 1000)] at HW
      have HF := Lib.hid (find_any W rb mv s id h (by have := hk.len; omega))
      have hw1 : w ≤ 1000 := by omega
      have hw0 : 1 ≤ w := by omega
      cases hq : findK s.l id with
      | some k =>
        have HJ : Hid (joinA s id w = (11, s)) := by unfold joinA; rw [if_neg h1, if_neg h2, hq]; exact rfl
        rw [HJ.out]
        rw [hq] at HF
        have e : idxO (some k) = (k : Int) := rfl
        rw [e] at HF
        have HEND := Lib.hid (fun (e : Ending) (w' : World) (hb : Below W.heap.size W w') (he : e = .returned (.int .i64 11)) => mut_below h hb he)
        have hk0 : (0 : Int) ≤ (k : Int) := by omega
        clear h hk h1 h2 hq e
        go_enter Tryz.func35, Tryz.ntmps35
        go_wp2_with (first | (go_at_call 67; refine HM.out.mono ?_; rintro e w' ⟨rfl, rfl⟩) | (go_at_call 68; refine HW.out.mono ?_; rintro e w' ⟨rfl, rfl⟩))
        refine HF.out.mono ?_
        rintro e w1 ⟨rfl, hb⟩
        have HB := Lib.hid hb
        clear hb
        go_wp2
        go_ret
        exact HEND.out _ _ HB.out rfl
      | none =>
        rw [hq] at HF
        have e : idxO none = -1 := rfl
        rw [e] at HF
        have hlen := hk.len
        obtain ⟨n, hn⟩ : ∃ n, s.l.length = n := ⟨_, rfl⟩
        have HN := Lib.hid hn
        obtain ⟨A, c, rfl⟩ := h.form
        rw [hn] at HR hlen h ⊢
        by_cases hfull : 32 ≤ n
        · have HJ : Hid (joinA s id w = (13, s)) := by unfold joinA; rw [if_neg h1, if_neg h2, hq]; simp only; rw [if_pos (by omega)]; exact rfl
          rw [HJ.out]
          have HEND := Lib.hid (fun (e : Ending) (w' : World) (hb : Below W.heap.size W w') (he : e = .returned (.int .i64 13)) => mut_below h hb he)
          have q3 : (32 : Int) ≤ (n : Int) := by omega
          clear h hk h1 h2 hq e hn
          go_enter Tryz.func35, Tryz.ntmps35
          go_wp2_with (first | (go_at_call 67; refine HM.out.mono ?_; rintro e w' ⟨rfl, rfl⟩) | (go_at_call 68; refine HW.out.mono ?_; rintro e w' ⟨rfl, rfl⟩))
          refine HF.out.mono ?_
          rintro e w1 ⟨rfl, hb⟩
          have HB := Lib.hid hb
          obtain ⟨_, c1, _⟩ := (HR.out.below hb).heads
          clear hb
          go_wp2
          go_ret
          exact HEND.out _ _ HB.out rfl
        · obtain ⟨i, rfl⟩ : ∃ i : Nat, id = i := ⟨id.toNat, by omega⟩
          obtain ⟨v, rfl⟩ : ∃ v : Nat, w = v := ⟨w.toNat, by omega⟩
          have HJ : Hid (joinA s i v = (0, joinR s i v)) := by unfold joinA; rw [if_neg h1, if_neg h2, hq]; simp only; rw [if_neg (by omega)]; exact rfl
          rw [HJ.out]
          have q3 : ¬ (32 : Int) ≤ (n : Int) := by omega
          have HFL := Lib.hid (fun (w' : World) (hb : Below W.heap.size W w') => floor_any w' rb _ s s.lim (h.below hb) hk.fit hk.pos (by have := hk.hi; omega))
          have HT := Lib.hid (fun W => times_any (floorN s) v hk.frac (by omega) W)
          have HI := Lib.hid (fun (w' : World) (m : Mb) (hb : Below W.heap.size W w') => ins_any w' rb _ s m (h.below hb) (by rw [hn]; omega))
          unfold passA at HFL HT
          unfold mbA at HI
          unfold joinR
          have HI2 := Lib.hid (fun (w' : World) (hb : Below W.heap.size W w') => HI.out w' ⟨i, v, upN (floorN s) v, true⟩ hb)
          generalize upN (floorN s) v = u at *
          generalize downN (floorN s) v + 1 = d at *
          generalize floorN s = f at *
          simp only at HI2
          clear HI
          have hi1 : (1 : Int) ≤ (i : Int) := by omega
          have hi2 : (i : Int) ≤ 200 := by omega
          have hlim : (v : Int) ≤ 1000 := hw1
          clear h hk h1 h2 hq e hn HJ
          go_enter Tryz.func35, Tryz.ntmps35
          go_wp2_with (first | (go_at_call 67; refine HM.out.mono ?_; rintro e w' ⟨rfl, rfl⟩) | (go_at_call 68; refine HW.out.mono ?_; rintro e w' ⟨rfl, rfl⟩))
          refine HF.out.mono ?_
          rintro e w1 ⟨rfl, hb⟩
          have HB := Lib.hid hb
          obtain ⟨_, c1, _⟩ := (HR.out.below hb).heads
          clear hb
          go_wp2_with fail
          refine (HFL.out _ HB.out).mono ?_
          rintro e w2 ⟨rfl, hb⟩
          have HB2 := Lib.hid (HB.out.trans (hb.mono HB.out.size))
          clear hb c1
          go_wp2_with fail
          refine (HT.out _).mono ?_
          rintro e w3 ⟨rfl, hb⟩
          have HB3 := Lib.hid (HB2.out.trans (hb.mono HB2.out.size))
          clear hb
          go_wp2_with fail
          refine (HI2.out _ HB3.out).mono ?_
          rintro e w4 ⟨mv', rfl, k1, k2, k3⟩
          have HEND : Hid (∀ e, e = .returned (.int .i64 0) → MutPost W rb (.slice A n c) (.int .i64 0) { s with l := insM s.l ⟨i, v, u, true⟩ } e w4) := fun e he =>
            ⟨mv', he, k1, (Apart.of_below HB3.out).trans k2 (fun _ _ h => h), fun k hk => (k3 k hk).elim .inl (fun h => .inr (Nat.le_trans HB3.out.size h))⟩
          clear k1 k2 k3
          go_wp2
          go_ret
          exact HEND.out _ rfl
end Go.Proofs.YtpfpojehcjmfnaaGreat.Rn

/-
  Leave, Block, Wake by contract.
  Conditions: the ring lies in memory; its numbers fit.
-/
set_option linter.unusedVariables false
namespace Go.Proofs.YtpfpojehcjmfnaaGreat.Rn
open Go.RowKit Go.Sort

end Go.Proofs.YtpfpojehcjmfnaaGreat.Rn

/-
  Rebasing; Next; Pick.
  Conditions: the ring lies in memory; its numbers fit.
-/
set_option linter.unusedVariables false
namespace Go.Proofs.YtpfpojehcjmfnaaGreat.Rn
open Go.RowKit Go.Sort

/-- The first k of them are shifted. -/
def reb (q k : Nat) (l : List Mb) : List Mb := (l.take k).map (shift q) ++ l.drop k
theorem reb_zero (q : Nat) (l : List Mb) : reb q 0 l = l := by simp [reb]
theorem reb_all (q : Nat) (l : List Mb) : reb q l.length l = l.map (shift q) := by simp [reb]
theorem reb_at {q k : Nat} {l : List Mb} {m : Mb} (h : l[k]? = some m) : (reb q k l)[k]? = some m := by
  have hk := (List.getElem?_eq_some_iff.1 h).1
  unfold reb
  rw [List.getElem?_append_right (by simp; omega)]
  simp only [List.length_map, List.length_take, Nat.min_eq_left (Nat.le_of_lt hk), Nat.sub_self, List.getElem?_drop, Nat.add_zero]
  exact h
theorem reb_succ {q k : Nat} {l : List Mb} {m : Mb} (h : l[k]? = some m) : (reb q k l).set k (shift q m) = reb q (k + 1) l := by
  have hk := (List.getElem?_eq_some_iff.1 h).1
  unfold reb
  have h2 : l.take (k + 1) = l.take k ++ [m] := by rw [List.take_add_one, h]; rfl
  rw [h2, drop_of h, List.map_append, List.set_append_right _ _ (by simp; omega)]
  simp only [List.length_map, List.length_take, Nat.min_eq_left (Nat.le_of_lt hk), Nat.sub_self, List.set_cons_zero]
  simp

def RebPost (W : World) (rb : Nat) (mv : Value) (s' : Rg) (e : Ending) (w' : World) : Prop := e = .returned (.tuple #[]) ∧ RingAt w' rb mv s' ∧ Apart (Foot rb mv) W w'
theorem keep_one {w : World} {g o : Nat} {u v : Value} (h : w.cell? ⟨g, o + 1, none⟩ = some v) : (w.setCell ⟨g, o + 3, none⟩ u).cell? ⟨g, o + 1, none⟩ = some v := by
  have e : (w.setCell ⟨g, o + 3, none⟩ u).cell? ⟨g, o + 1, none⟩ = w.cell? ⟨g, o + 1, none⟩ := World.cell?_setCell_other _ _ _ _ (by intro e; injection e with _ e _; omega)
  rw [e]
  exact h
set_option maxRecDepth 100000 in
set_option maxHeartbeats 2000000 in
theorem rebase_any (W : World) (rb : Nat) (mv : Value) (s : Rg) (C : Nat) (h : RingAt W rb mv s) (hf : Fit C s) (hlim : 0 < s.lim) (hl : C ≤ 1099511627777) :
    Calls Tryz.prog 75 #[.pointer (some ⟨rb, 0, none⟩)] W (RebPost W rb mv (rebaseR s)) := by
  have HR := Lib.hid h
  have HF := Lib.hid hf
  have HCL := Lib.hid hl
  have HFL := Lib.hid (floor_any W rb mv s C h hf hlim hl)
  obtain ⟨A, c, rfl⟩ := h.form
  obtain ⟨n, hn⟩ : ∃ n, s.l.length = n := ⟨_, rfl⟩
  have HN := Lib.hid hn
  rw [hn] at HR ⊢
  have hlen : n ≤ 32 := by have := hf.len; omega
  obtain ⟨g1, g2, g3⟩ := hf.floor
  unfold rebaseR wholeN
  obtain ⟨f1, hf1⟩ : ∃ x, (floorN s).1 = x := ⟨_, rfl⟩
  obtain ⟨f2, hf2⟩ : ∃ x, (floorN s).2 = x := ⟨_, rfl⟩
  rw [hf1, hf2] at HFL ⊢
  rw [hf2] at g1 g2 g3
  rw [hf1] at g3
  have HQL : Hid (f1 / f2 ≤ 1099511627777) := by
    show _ ≤ _
    have : f1 / f2 < 1099511627778 := (Nat.div_lt_iff_lt_mul g1).2 (by
      have : C * f2 ≤ 1099511627777 * f2 := Nat.mul_le_mul_right _ hl
      omega)
    omega
  obtain ⟨q, hq⟩ : ∃ q, f1 / f2 = q := ⟨_, rfl⟩
  have y1 : (f1 : Int) / (f2 : Int) = (q : Int) := by rw [← hq]; exact (Int.natCast_ediv f1 f2).symm
  have y2 : (f1 : Int).tdiv (f2 : Int) = (q : Int) := by rw [← hq]; rfl
  have y3 : ((f2 : Int) == 0) = false := beq_eq_false_iff_ne.2 (by omega)
  have y4 : ((f2 : Int) != 0) = true := by simp; omega
  have y5 : IntKind.u64.wrap (q : Int) = (q : Int) := u64_small (by have := HQL.out; omega)
  have y6 : 0 < f2 := g1
  have y7 : ¬ (f2 = 0) := by omega
  rw [hq] at HQL ⊢
  unfold passA at HFL
  have HRE := Lib.hid (reb_all q s.l)
  clear h hf hl hlim hf1 hf2 g1 g2 g3 hn hq
  have mixed : Tryz.prog.follows .mixedOrders = true := by kernel_rfl
  go_enter Tryz.func75, Tryz.ntmps75
  go_wp2_with fail
  refine HFL.out.mono ?_
  rintro e w1 ⟨rfl, hb⟩
  obtain ⟨N, hN⟩ : ∃ N, w1.heap.size = N := ⟨_, rfl⟩
  obtain ⟨w2, hw2⟩ : ∃ w2, w1.alloc (.cells #[.int .u64 f1, .int .u64 f2] 112) = w2 := ⟨_, rfl⟩
  obtain ⟨n0, n1, _⟩ := two_heads (show w2.heap[N]? = some (.cells #[.int .u64 f1, .int .u64 f2] 112 (0, 0)) by rw [← hw2]; exact alloc_block w1 _ hN)
  have HB2 : Hid (Below W.heap.size W w2) := by rw [← hw2]; exact hb.alloc hb.size _
  have HR2 := Lib.hid (HR.out.below HB2.out)
  obtain ⟨_, c1, _⟩ := HR2.out.heads
  clear hb
  go_wp2_with fail
  go_loopg [18] n (fun gg s18 wr => ∃ k : Nat, k ≤ n ∧ gg = n - k ∧ s18 = .int .i64 k ∧ RingAt wr rb (.slice A n c) { s with l := reb q k s.l } ∧ Apart (Foot rb (.slice A n c)) W wr)
  case atStart => exact ⟨0, Nat.zero_le _, by omega, rfl, by rw [reb_zero]; exact HR2.out, Apart.of_below HB2.out⟩
  case round =>
    obtain ⟨k, hk, hg, rfl, hr, ha⟩ := hrel
    have HRR := Lib.hid hr
    have HA := Lib.hid ha
    have HG := Lib.hid hg
    clear hr ha hg
    by_cases hlt : k < n
    · have hltz : (k : Int) < (n : Int) := by omega
      have hk0 : (0 : Int) ≤ (k : Int) := by omega
      obtain ⟨m, hm⟩ := ex_at (xs := s.l) (k := k) (by rw [HN.out]; exact hlt)
      have HM := Lib.hid hm
      obtain ⟨g, cap, hA, hgl, hgne, _, _, hat, hfr⟩ := HRR.out.at_ (reb_at hm)
      injection hA with hA hA1 hA2; clear hA1 hA2
      subst hA
      obtain ⟨_, c1', _⟩ := HRR.out.heads
      obtain ⟨_, _, _, f4, f5⟩ := HF.out.mem m (List.mem_of_getElem? hm)
      have f6 : m.n ≤ 1099511627777000 := by have : C * m.w ≤ 1099511627777 * 1000 := Nat.mul_le_mul HCL.out f4; omega
      obtain ⟨p, hp⟩ : ∃ p, q * m.w = p := ⟨_, rfl⟩
      have p6 : p ≤ 1099511627777000 := by rw [← hp]; have : q * m.w ≤ 1099511627777 * 1000 := Nat.mul_le_mul HQL.out f4; omega
      obtain ⟨z, hz⟩ : ∃ z, min m.n p = z := ⟨_, rfl⟩
      obtain ⟨r, hrr⟩ : ∃ r, m.n - p = r := ⟨_, rfl⟩
      have z1 : IntKind.u64.wrap ((q : Int) * (m.w : Int)) = (p : Int) := by rw [← hp, ← Int.natCast_mul]; exact u64_small (by omega)
      have z2 : min (m.n : Int) (p : Int) = (z : Int) := by omega
      have z3 : IntKind.u64.wrap ((m.n : Int) - (z : Int)) = (r : Int) := by
        have : (m.n : Int) - (z : Int) = (r : Int) := by omega
        rw [this]; exact u64_small (by omega)
      have z4 : IntKind.u64.wrap (m.w : Int) = (m.w : Int) := u64_small (by omega)
      have HSH : Hid ({ m with n := r } = shift q m) := by show _ = _; unfold shift; rw [hp, hrr]
      have HSET : Hid (RingAt (wr.drew.setCell ⟨g, k * 4 + 3, none⟩ (.int .u64 r)) rb (.slice (some ⟨g, 0, none⟩) n c) { s with l := reb q (k + 1) s.l }) := by
        have hrd : RingAt wr.drew rb (.slice (some ⟨g, 0, none⟩) n c) { s with l := reb q k s.l } := HRR.out.below (below_drewN (Below.refl _ wr) 1)
        have := hrd.setN (k := k) (reb_at hm) r
        rw [HSH.out] at this
        rw [← reb_succ hm]
        exact this
      have HS1 : Hid (∀ w' : World, w'.heap[g]? = wr.heap[g]? → w'.cell? ⟨g, k * 4 + 1, none⟩ = some (.int .i64 m.w) ∧ w'.cell? ⟨g, k * 4 + 3, none⟩ = some (.int .u64 m.n) ∧ w'.frozen? ⟨g, k * 4 + 3, none⟩ = false) := fun w' e => by
        obtain ⟨_, a1, _, a3⟩ := hat.keep e
        refine ⟨a1, a3, ?_⟩
        rw [← hfr (k * 4 + 3)]
        simp [World.frozen?, e]
      clear hat hfr hm f4 f5 hp hrr hz
      obtain ⟨m1, m2, m3, m4⟩ := m
      simp only at z1 z2 z3 z4 HS1 f6
      obtain ⟨d1, d3, d5⟩ := HS1.out wr.drew rfl
      go_wp2_with fail
      refine wp_region_N (S1 := fun W => W.cell? ⟨g, k * 4 + 1, none⟩ = some (.int .i64 m2)) (S2 := fun W => W.cell? ⟨g, k * 4 + 3, none⟩ = some (.int .u64 m3)) (N := fun i => i != 20) (by kernel_rfl) ?_
      change wpAnyN _ _ _ _ _ _ _ 21 (Array.replicate 21 false) _ _
      refine wpAnyN_take false (i := 0) (v := .pointer (some ⟨g, k * 4, none⟩)) rfl (by kernel_rfl) (by kernel_rfl) (by kernel_rfl) (fun _ _ _ h => h) (.inl ⟨by kernel_rfl, fun W hS => ?_⟩) ⟨d1, fun h => by cases h⟩ ?_
      · simp [execOp, Act.eval, go_sem]
      refine wpAnyN_take false (i := 1) (v := .pointer (some ⟨g, k * 4, none⟩)) rfl (by kernel_rfl) (by kernel_rfl) (by kernel_rfl) (fun _ _ _ h => h) (.inl ⟨by kernel_rfl, fun W hS => ?_⟩) ⟨d1, fun h => by cases h⟩ ?_
      · simp [execOp, Act.eval, Act.put, go_sem]
      refine wpAnyN_take false (i := 2) (v := .pointer (some ⟨g, k * 4 + 3, none⟩)) rfl (by kernel_rfl) (by kernel_rfl) (by kernel_rfl) (fun _ _ _ h => h) (.inl ⟨by kernel_rfl, fun W hS => ?_⟩) ⟨d1, fun h => by cases h⟩ ?_
      · simp [execOp, Act.eval, Act.put, go_sem]
      refine wpAnyN_take true (i := 3) (v := .int .u64 m3) rfl (by kernel_rfl) (by kernel_rfl) (by kernel_rfl) (fun _ _ _ h => h) (.inl ⟨by kernel_rfl, fun W hS => ?_⟩) ⟨d1, fun _ => d3⟩ ?_
      · simp [execOp, Act.eval, Act.put, go_sem, hS.2 rfl]
      simp only [Act.put]
      go_simp
      refine wpAnyN_take false (i := 4) (v := .pointer (some ⟨g, k * 4, none⟩)) rfl (by kernel_rfl) (by kernel_rfl) (by kernel_rfl) (fun _ _ _ h => h) (.inl ⟨by kernel_rfl, fun W hS => ?_⟩) ⟨d1, fun h => by cases h⟩ ?_
      · simp [execOp, Act.eval, go_sem]
      refine wpAnyN_take false (i := 5) (v := .pointer (some ⟨g, k * 4, none⟩)) rfl (by kernel_rfl) (by kernel_rfl) (by kernel_rfl) (fun _ _ _ h => h) (.inl ⟨by kernel_rfl, fun W hS => ?_⟩) ⟨d1, fun h => by cases h⟩ ?_
      · simp [execOp, Act.eval, Act.put, go_sem]
      refine wpAnyN_take false (i := 6) (v := .pointer (some ⟨g, k * 4 + 3, none⟩)) rfl (by kernel_rfl) (by kernel_rfl) (by kernel_rfl) (fun _ _ _ h => h) (.inl ⟨by kernel_rfl, fun W hS => ?_⟩) ⟨d1, fun h => by cases h⟩ ?_
      · simp [execOp, Act.eval, Act.put, go_sem]
      refine wpAnyN_take true (i := 7) (v := .int .u64 m3) rfl (by kernel_rfl) (by kernel_rfl) (by kernel_rfl) (fun _ _ _ h => h) (.inl ⟨by kernel_rfl, fun W hS => ?_⟩) ⟨d1, fun _ => d3⟩ ?_
      · simp [execOp, Act.eval, Act.put, go_sem, hS.2 rfl]
      simp only [Act.put]
      go_simp
      refine wpAnyN_take false (i := 8) (v := .int .u64 q) rfl (by kernel_rfl) (by kernel_rfl) (by kernel_rfl) (fun _ _ _ h => h) (.inl ⟨by kernel_rfl, fun W hS => ?_⟩) ⟨d1, fun h => by cases h⟩ ?_
      · simp [execOp, Act.eval, go_sem]
      refine wpAnyN_take false (i := 9) (v := .pointer (some ⟨g, k * 4, none⟩)) rfl (by kernel_rfl) (by kernel_rfl) (by kernel_rfl) (fun _ _ _ h => h) (.inl ⟨by kernel_rfl, fun W hS => ?_⟩) ⟨d1, fun h => by cases h⟩ ?_
      · simp [execOp, Act.eval, Act.put, go_sem]
      refine wpAnyN_take false (i := 10) (v := .pointer (some ⟨g, k * 4, none⟩)) rfl (by kernel_rfl) (by kernel_rfl) (by kernel_rfl) (fun _ _ _ h => h) (.inl ⟨by kernel_rfl, fun W hS => ?_⟩) ⟨d1, fun h => by cases h⟩ ?_
      · simp [execOp, Act.eval, Act.put, go_sem]
      refine wpAnyN_take false (i := 11) (v := .pointer (some ⟨g, k * 4, none⟩)) rfl (by kernel_rfl) (by kernel_rfl) (by kernel_rfl) (fun _ _ _ h => h) (.inl ⟨by kernel_rfl, fun W hS => ?_⟩) ⟨d1, fun h => by cases h⟩ ?_
      · simp [execOp, Act.eval, Act.put, go_sem]
      simp only [Act.put]
      go_simp
      refine wpAnyN_take false (i := 12) (v := .pointer (some ⟨g, k * 4 + 1, none⟩)) rfl (by kernel_rfl) (by kernel_rfl) (by kernel_rfl) (fun _ _ _ h => h) (.inl ⟨by kernel_rfl, fun W hS => ?_⟩) ⟨d1, fun h => by cases h⟩ ?_
      · simp [execOp, Act.eval, go_sem]
      refine wpAnyN_take false (i := 13) (v := .int .i64 m2) rfl (by kernel_rfl) (by kernel_rfl) (by kernel_rfl) (fun _ _ _ h => h) (.inl ⟨by kernel_rfl, fun W hS => ?_⟩) ⟨d1, fun h => by cases h⟩ ?_
      · simp [execOp, Act.eval, Act.put, go_sem, hS.1]
      refine wpAnyN_take false (i := 14) (v := .int .u64 m2) rfl (by kernel_rfl) (by kernel_rfl) (by kernel_rfl) (fun _ _ _ h => h) (.inl ⟨by kernel_rfl, fun W hS => ?_⟩) ⟨d1, fun h => by cases h⟩ ?_
      · simp [execOp, Act.eval, Act.put, go_sem, z4]
      refine wpAnyN_take false (i := 15) (v := .int .u64 p) rfl (by kernel_rfl) (by kernel_rfl) (by kernel_rfl) (fun _ _ _ h => h) (.inl ⟨by kernel_rfl, fun W hS => ?_⟩) ⟨d1, fun h => by cases h⟩ ?_
      · simp [execOp, Act.eval, Act.put, go_sem, z1]
      simp only [Act.put]
      go_simp
      refine wpAnyN_take false (i := 16) (v := .int .u64 z) rfl (by kernel_rfl) (by kernel_rfl) (by kernel_rfl) (fun _ _ _ h => h) (.inl ⟨by kernel_rfl, fun W hS => ?_⟩) ⟨d1, fun h => by cases h⟩ ?_
      · simp [execOp, Act.eval, go_sem, z2]
      refine wpAnyN_take false (i := 17) (v := .int .u64 r) rfl (by kernel_rfl) (by kernel_rfl) (by kernel_rfl) (fun _ _ _ h => h) (.inl ⟨by kernel_rfl, fun W hS => ?_⟩) ⟨d1, fun h => by cases h⟩ ?_
      · simp [execOp, Act.eval, Act.put, go_sem, z3]
      refine wpAnyN_take false (i := 18) (v := .pointer (some ⟨g, k * 4, none⟩)) rfl (by kernel_rfl) (by kernel_rfl) (by kernel_rfl) (fun _ _ _ h => h) (.inl ⟨by kernel_rfl, fun W hS => ?_⟩) ⟨d1, fun h => by cases h⟩ ?_
      · simp [execOp, Act.eval, Act.put, go_sem]
      refine wpAnyN_take false (i := 19) (v := .pointer (some ⟨g, k * 4 + 3, none⟩)) rfl (by kernel_rfl) (by kernel_rfl) (by kernel_rfl) (fun _ _ _ h => h) (.inl ⟨by kernel_rfl, fun W hS => ?_⟩) ⟨d1, fun h => by cases h⟩ ?_
      · simp [execOp, Act.eval, Act.put, go_sem]
      simp only [Act.put]
      go_simp
      refine wpAnyN_step (i := 20) (by kernel_rfl) rfl (by kernel_rfl) ?_
      intro K' hK
      try simp only [Act.put]
      go_simp
      refine hK.out _ _ (keep_one d1) (fun h => absurd h (by decide)) ?_
      refine wpAnyN_done (by kernel_rfl) ?_
      try simp only [Act.put]
      try go_simp
      go_wp2
      go_roundg (n - (k + 1))
      case measure => have := HG.out; omega
      case rel => exact ⟨k + 1, by omega, rfl, by go_num, HSET.out, HA.out.drewN 1 |>.set (p := ⟨g, k * 4 + 3, none⟩) (.inl (.inr rfl)) _⟩
    · have hltz : ¬ (k : Int) < (n : Int) := by omega
      have hkn : k = n := by omega
      rw [hkn] at HRR
      have HEND : Hid (∀ e, e = .returned (.tuple #[]) → RebPost W rb (.slice A n c) { s with l := s.l.map (shift q) } e wr) := fun e he => by
        refine ⟨he, ?_, HA.out⟩
        rw [← HRE.out, HN.out]
        exact HRR.out
      go_wp2
      refine bodyPost_end (results_none rfl _ _ _) rfl ?_
      exact HEND.out _ rfl

def pickV (s : Rg) : Value := match best s.l with | none => .tuple #[.int .i64 0, .bool false] | some x => .tuple #[.int .i64 x.2.id, .bool true]
set_option maxRecDepth 100000 in
set_option maxHeartbeats 2000000 in
theorem pick_any (W : World) (rb : Nat) (mv : Value) (s : Rg) (h : RingAt W rb mv s) (hk : Okay s) :
    Calls Tryz.prog 37 #[.pointer (some ⟨rb, 0, none⟩)] W (MutPost W rb mv (pickV s) (pickA s).2) := by
  have HFI := Lib.hid (first_any W rb mv s s.lim h hk.fit hk.pos (by have := hk.hi; omega))
  have HR := Lib.hid h
  have HK := Lib.hid hk
  unfold pickV pickA
  cases hb : best s.l with
  | none =>
    rw [hb] at HFI
    have e : idxI none = -1 := rfl
    rw [e] at HFI
    have HEND := Lib.hid (fun (e : Ending) (w' : World) (hb : Below W.heap.size W w') (he : e = .returned (.tuple #[.int .i64 0, .bool false])) => mut_below h hb he)
    clear h hk hb e
    go_enter Tryz.func37, Tryz.ntmps37
    go_wp2_with fail
    refine HFI.out.mono ?_
    rintro e w1 ⟨rfl, hb⟩
    have HB := Lib.hid hb
    clear hb
    go_wp2
    go_ret2
    exact HEND.out _ _ HB.out rfl
  | some x =>
    obtain ⟨k, m⟩ := x
    rw [hb] at HFI
    have e : idxI (some (k, m)) = (k : Int) := rfl
    rw [e] at HFI
    obtain ⟨hm, h2, h3⟩ := best_some hk.fit.pos hb
    simp only at hm
    have HM := Lib.hid hm
    have hkl := (List.getElem?_eq_some_iff.1 hm).1
    obtain ⟨A, c, rfl⟩ := h.form
    obtain ⟨n, hn⟩ : ∃ n, s.l.length = n := ⟨_, rfl⟩
    have HN := Lib.hid hn
    rw [hn] at hkl HR h ⊢
    have hk1 : (k : Int) < (n : Int) := by omega
    have hk0 : (0 : Int) ≤ (k : Int) := by omega
    have hmn := (hk.mem (List.mem_of_getElem? hm)).2.2.1
    have hmb : m.n ≤ 1099511627776000 := by
      obtain ⟨⟨_, a, b⟩, _⟩ := hk.mem (List.mem_of_getElem? hm)
      have : (1099511627776 : Nat) * (m.n, m.w).2 ≤ 1099511627776 * 1000 := Nat.mul_le_mul_left _ a
      simp only at b this
      omega
    have HF0 : Hid (Fit (s.lim + 1) (pick0 s k m)) := hk.fit.pick1 hm
    simp only
    obtain ⟨sx, hsx⟩ : ∃ sx, pickR s k m = sx := ⟨_, rfl⟩
    have HSX := Lib.hid hsx
    rw [hsx]
    obtain ⟨lim, hlim⟩ : ∃ lim, s.lim = lim := ⟨_, rfl⟩
    have HLIM := Lib.hid hlim
    have HIFT := Lib.hid (fun (hl : lim ≤ m.n + 1) => show rebaseR (pick0 s k m) = sx by rw [← hsx]; unfold pickR; rw [if_pos (by rw [hlim]; exact hl)])
    have HIFF := Lib.hid (fun (hl : ¬ lim ≤ m.n + 1) => show pick0 s k m = sx by rw [← hsx]; unfold pickR; rw [if_neg (by rw [hlim]; exact hl)])
    obtain ⟨x, hx⟩ : ∃ x, m.n + 1 = x := ⟨_, rfl⟩
    have hx2 : (m.n : Int) + 1 = (x : Int) := by omega
    have hx3 : x ≤ 1099511627776001 := by omega
    rw [hx] at HIFT HIFF
    have HX := Lib.hid hx
    clear h hk hb e h2 h3 hm hn hsx hlim hx hmn
    have mixed : Tryz.prog.follows .mixedOrders = true := by kernel_rfl
    obtain ⟨m1, m2, m3, m4⟩ := m
    simp only at hx2 HX hmb
    go_enter Tryz.func37, Tryz.ntmps37
    go_wp2_with fail
    refine HFI.out.mono ?_
    rintro e w1 ⟨rfl, hb⟩
    have HB := Lib.hid hb
    have HR1 := Lib.hid (HR.out.below hb)
    obtain ⟨_, c1, _⟩ := HR1.out.heads
    obtain ⟨g, cap, hA, _, _, _, _, ⟨a0, a1, a2, a3⟩, hfr⟩ := HR1.out.at_ HM.out
    injection hA with hA hA1 hA2; clear hA1 hA2
    subst hA
    have b3 := hfr (k * 4 + 3)
    have HR2 : Hid (RingAt (w1.setCell ⟨g, k * 4 + 3, none⟩ (.int .u64 x)) rb (.slice (some ⟨g, 0, none⟩) n c) (pick0 s k ⟨m1, m2, m3, m4⟩)) := by
      have := HR1.out.setN HM.out x
      unfold pick0
      rw [HX.out]
      exact this
    have HA2 : Hid (Apart (Foot rb (.slice (some ⟨g, 0, none⟩) n c)) W (w1.setCell ⟨g, k * 4 + 3, none⟩ (.int .u64 x))) := (Apart.of_below HB.out).set (p := ⟨g, k * 4 + 3, none⟩) (.inl (.inr rfl)) _
    obtain ⟨w2, hw2⟩ : ∃ w2, w1.setCell ⟨g, k * 4 + 3, none⟩ (.int .u64 x) = w2 := ⟨_, rfl⟩
    rw [hw2] at HR2 HA2
    have HM2 : Hid ((pick0 s k ⟨m1, m2, m3, m4⟩).l[k]? = some ⟨m1, m2, x, m4⟩) := by
      show (s.l.set k _)[k]? = _
      rw [List.getElem?_set_self (List.getElem?_eq_some_iff.1 HM.out).1, HX.out]
    clear hfr hb
    go_wp2_with fail
    clear hw2 c1 a0 a1 a2 a3 b3
    obtain ⟨c0, c1, _⟩ := HR2.out.heads
    rw [show (pick0 s k ⟨m1, m2, m3, m4⟩).lim = lim from HLIM.out] at c0
    obtain ⟨g2, cap2, hA, _, _, _, _, ⟨a0, a1, a2, a3⟩, hfr⟩ := HR2.out.at_ HM2.out
    injection hA with hA hA1 hA2; clear hA1 hA2
    injection hA with hA
    injection hA with hA
    subst hA
    by_cases hl : lim ≤ x
    · have q1 : decide ((lim : Int) ≤ (x : Int)) = true := decide_eq_true (by omega)
      have q2 : (lim : Int) ≤ (x : Int) := by omega
      have HE := Lib.hid (HIFT.out hl)
      go_quiet (fail)
      clear a0 a1 a2 a3 hfr c0 c1
      have HR3 := Lib.hid (HR2.out.drewN nq)
      have HRB := Lib.hid (rebase_any (w2.drewN nq) rb _ _ (s.lim + 1) HR3.out HF0.out HK.out.pos (by have := HK.out.hi; omega))
      rw [HE.out] at HRB
      have HA3 := Lib.hid (HA2.out.drewN nq)
      generalize w2.drewN nq = w3 at *
      go_wp2_with fail
      refine HRB.out.mono ?_
      rintro e w4 ⟨rfl, k1, k2⟩
      have HEND : Hid (∀ e, e = .returned (.tuple #[.int .i64 m1, .bool true]) → MutPost W rb (.slice (some ⟨g, 0, none⟩) n c) (.tuple #[.int .i64 m1, .bool true]) sx e w4) := fun e he =>
        ⟨_, he, k1, HA3.out.trans k2 (fun _ _ h => h), Grew.refl _ _⟩
      have HN4 : Hid (∃ m', sx.l[k]? = some m' ∧ m'.id = m1) := by
        rw [← HE.out]
        refine ⟨shift (wholeN (pick0 s k ⟨m1, m2, m3, m4⟩)) ⟨m1, m2, x, m4⟩, ?_, rfl⟩
        show ((pick0 s k ⟨m1, m2, m3, m4⟩).l.map _)[k]? = _
        rw [List.getElem?_map, HM2.out]
        rfl
      obtain ⟨m', hm', hid'⟩ := HN4.out
      obtain ⟨g3, cap3, hA, _, _, _, _, ⟨a0, _⟩, _⟩ := k1.at_ hm'
      injection hA with hA hA1 hA2; clear hA1 hA2
      injection hA with hA
      injection hA with hA
      subst hA
      rw [hid'] at a0
      clear k1 k2 hm' hid'
      go_wp2
      go_ret2
      exact HEND.out _ rfl
    · have q1 : decide ((lim : Int) ≤ (x : Int)) = false := decide_eq_false (by omega)
      have q2 : ¬ (lim : Int) ≤ (x : Int) := by omega
      have HE := Lib.hid (HIFF.out hl)
      go_quiet (fail)
      have HR3 := Lib.hid (HR2.out.drewN nq)
      rw [HE.out] at HR3
      have HA3 := Lib.hid (HA2.out.drewN nq)
      have HEND : Hid (∀ e, e = .returned (.tuple #[.int .i64 m1, .bool true]) → MutPost W rb (.slice (some ⟨g, 0, none⟩) n c) (.tuple #[.int .i64 m1, .bool true]) sx e (w2.drewN nq)) := fun e he => ⟨_, he, HR3.out, HA3.out, Grew.refl _ _⟩
      go_wp2
      go_ret2
      exact HEND.out _ rfl
end Go.Proofs.YtpfpojehcjmfnaaGreat.Rn
