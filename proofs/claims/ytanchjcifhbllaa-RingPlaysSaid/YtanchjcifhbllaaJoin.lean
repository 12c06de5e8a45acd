/-
  One more member is laid in; a count is brought near the floor; New; Join.
  Conditions: the ring lies in memory; its numbers fit.
-/
import Derived.Test.YtanchjcifhbllaaChange
import Derived.Test.YtanchjcifhbllaaOrders
set_option linter.unusedVariables false
namespace Go.Proofs.Ytanchjcifhbllaa
open Go.RowKit Go.Sort

theorem four_heads {w : World} {N : Nat} {m : Mb} {T : TypeId} (h : w.heap[N]? = some (.cells #[.int .i64 m.id, .int .i64 m.w, .bool m.on, .int .u64 m.n] T (0, 0))) : MbAt w N 0 m := by
  refine ⟨?_, ?_, ?_, ?_⟩ <;> simp [World.cell?, h]
/-- The row of a ring is another one. -/
theorem RingAt.row_ {W : World} {rb : Nat} {mv mv' : Value} {s : Rg} {l : List Mb} (h : W.heap[rb]? = some (.cells #[.int .u64 s.lim, mv, .int .u64 s.num, .int .u64 s.den] 60 (0, 0))) (hr : RowM W mv' l) (hne : mv'.ownBlock ≠ some rb) :
    RingAt (W.setCell ⟨rb, 1, none⟩ mv') rb mv' { s with l := l } :=
  ⟨heap_setCell_mem _ _ _ _ _ _ _ h, own_keep hr fun k hk => Below.heap_setCell _ _ _ _ (fun e => hne (by rw [show rb = k from e.symm]; exact hk)), hne⟩
theorem idx_big (l : List Mb) (id : Nat) : (∃ k, l.findIdx? (fun x => decide (id < x.id)) = some k ∧ bigI l id = k ∧ k < l.length) ∨ (l.findIdx? (fun x => decide (id < x.id)) = none ∧ bigI l id = l.length) := by
  unfold bigI
  cases h : l.findIdx? fun x => decide (id < x.id) with
  | none => exact .inr ⟨rfl, rfl⟩
  | some k =>
    rw [List.findIdx?_eq_some_iff_getElem] at h
    exact .inl ⟨k, rfl, rfl, h.1⟩

theorem stepA {wb w1 : World} (h : Hid (Below wb.heap.size wb w1)) (o : Obj) : Below wb.heap.size wb (w1.alloc o) := h.out.alloc h.out.size o
/-- What a call answers that changes a ring and tells nothing. -/
def InsPost (W : World) (rb : Nat) (mv : Value) (s' : Rg) (e : Ending) (w' : World) : Prop := ∃ mv', e = .returned (.tuple #[]) ∧ RingAt w' rb mv' s' ∧ Apart (Foot rb mv) W w' ∧ Grew W mv mv'

set_option maxRecDepth 100000 in
set_option maxHeartbeats 2000000 in
theorem ins_any (W : World) (rb : Nat) (mv : Value) (s : Rg) (m : Mb) (h : RingAt W rb mv s) (hl : s.l.length ≤ 100) :
    Calls Try.prog 39 #[.pointer (some ⟨rb, 0, none⟩), mbA m] W (InsPost W rb mv { s with l := insM s.l m }) := by
  obtain ⟨N, hN⟩ : ∃ N, W.heap.size = N := ⟨_, rfl⟩
  have HSZ := Lib.hid hN
  have HR := Lib.hid h
  obtain ⟨W1, hW1⟩ : ∃ W1, W.alloc (.cells #[.int .i64 m.id, .int .i64 m.w, .bool m.on, .int .u64 m.n] 76) = W1 := ⟨_, rfl⟩
  have hb1 : Below W.heap.size W W1 := by rw [← hW1]; exact (Below.refl _ W).alloc (Nat.le_refl _) _
  have hn1 : W1.heap[N]? = some (.cells #[.int .i64 m.id, .int .i64 m.w, .bool m.on, .int .u64 m.n] 76 (0, 0)) := by rw [← hW1]; exact alloc_block W _ hN
  have HB1 := Lib.hid hb1
  have HN1 := Lib.hid hn1
  have HR1 := Lib.hid (h.below hb1)
  have HI := Lib.hid (index_any 59 #[.pointer (some ⟨N, 0, none⟩)] (by intro args w; rfl) (fun x => decide (m.id < x.id)) mv s.l W1 (isBig_pred W1 N m (four_heads hn1).1) (h.below hb1).row (by omega))
  obtain ⟨_, c1, _⟩ := (h.below hb1).heads
  obtain ⟨A, c, rfl⟩ := h.form
  obtain ⟨n, hn⟩ : ∃ n, s.l.length = n := ⟨_, rfl⟩
  have HNN := Lib.hid hn
  rw [hn] at c1 HI HR HR1 ⊢
  clear hn1 hb1 h
  rw [hn] at hl
  clear hn
  have HBIG := Lib.hid (idx_big s.l m.id)
  obtain ⟨j, hj⟩ : ∃ j, bigI s.l m.id = j := ⟨_, rfl⟩
  have HJ := Lib.hid hj
  unfold mbA
  go_enter Try.func39, Try.ntmps39
  go_wp2_with fail
  clear hW1 hN hj
  refine HI.out.mono ?_
  rintro e w2 ⟨rfl, hb⟩
  have HB := Lib.hid hb
  have HR2 := Lib.hid (HR1.out.below hb)
  have HN2 := Lib.hid (keep_block HN1.out hb)
  obtain ⟨_, c1', _⟩ := (HR1.out.below hb).heads
  clear hb c1
  have HX : Hid (∃ J : Int, idxO (s.l.findIdx? fun x => decide (m.id < x.id)) = J ∧ ((J < 0 ∧ j = n) ∨ (J = (j : Int) ∧ j < n))) := by
    refine ⟨_, rfl, ?_⟩
    rcases HBIG.out with ⟨k, k1, k2, k3⟩ | ⟨k1, k2⟩
    · rw [HJ.out] at k2
      subst k2
      rw [k1, ← HNN.out]
      exact .inr ⟨rfl, k3⟩
    · rw [HJ.out, HNN.out] at k2
      rw [k1]
      exact .inl ⟨by decide, k2⟩
  obtain ⟨J, hJ, hJ2⟩ := HX.out
  rw [hJ]
  clear hJ HX HBIG HI
  have hjn : j ≤ n := by omega
  have HJN := Lib.hid hjn
  have HC : Hid (∀ w', Below w2.heap.size w2 w' → w'.heap[w2.heap.size]? = some (.cells #[.int .i64 m.id, .int .i64 m.w, .bool m.on, .int .u64 m.n] 76 (0, 0)) →
      Calls Try.prog 60 #[.slice A n c, .int .i64 j, .slice (some ⟨w2.heap.size, 0, none⟩) 1 1] w' (RetM 0 76 (.slice A n c) (insM s.l m) w')) := fun w' hb hv => by
    have hr := (HR2.out.below hb).row
    have := insert_any 0 _ s.l j m w2.heap.size w' hr (by rw [HNN.out]; exact HJN.out) (by rw [HNN.out]; omega) (Nat.zero_le _) hv (fun e => by have := own_lt HR2.out.row e; omega)
    unfold insM
    rw [HJ.out]
    exact this
  have HS : Hid (∀ w', Apart (fun k => (Value.slice A n c).ownBlock = some k) w2 w' → w'.cell? ⟨rb, 1, none⟩ = some (.slice A n c) ∧ w'.frozen? ⟨rb, 1, none⟩ = false ∧ MbAt w' N 0 m ∧ Hid (Apart (fun k => (Value.slice A n c).ownBlock = some k) w2 w')) := fun w' ha => by
    obtain ⟨_, d, _, _, _, d2, _⟩ := HR2.out.heads
    have hb := ha.block rb HR2.out.lt (fun e => HR2.out.ne e)
    have hN' := ha.block N (heap_lt HN2.out) (fun e => by have := own_lt HR.out.row e; have := HSZ.out; omega)
    refine ⟨(cell_same hb 1).trans d, ?_, (four_heads (hN'.trans HN2.out)), Lib.hid ha⟩
    rw [← d2]
    simp [World.frozen?, hb]
  have HFIN : Hid (∀ mv' w4 w5, Below w2.heap.size w2 w4 → w5.ownsRow 0 76 4 mv' (insM s.l m).length (rowC (insM s.l m)) → Apart (fun k => (Value.slice A n c).ownBlock = some k) w4 w5 → Grew w4 (.slice A n c) mv' →
      InsPost W rb (.slice A n c) { s with l := insM s.l m } (.returned (.tuple #[])) (w5.setCell ⟨rb, 1, none⟩ mv')) := fun mv' w4 w5 hb h1 h2 h3 => by
    have HR4 := HR2.out.below hb
    have hb5 := h2.block rb HR4.lt (fun e => HR4.ne e)
    have hbw : Below W.heap.size W w4 := HB1.out.trans ((HB.out.trans (hb.mono HB.out.size)).mono HB1.out.size)
    refine ⟨mv', rfl, RingAt.row_ (hb5.trans HR4.head) h1 (fun e => ?_), ?_, fun k hk => ?_⟩
    · rcases h3 rb e with e | e
      · exact HR4.ne e
      · have := HR4.lt; omega
    · exact ((Apart.of_below hbw).trans h2 (fun x _ hx => .inr hx)).set (p := ⟨rb, 1, none⟩) (.inl (.inl rfl)) _
    · rcases h3 k hk with e | e
      · exact .inl e
      · exact .inr (Nat.le_trans hbw.size e)
  have mixed : Try.prog.follows .mixedOrders = true := by kernel_rfl
  have HDR := Lib.hid (show Below w2.heap.size w2 w2.drew from below_drewN (Below.refl _ _) 1)
  have hs2 := HS.out w2 (Apart.refl _ w2)
  obtain ⟨s1, s2, ⟨s3, s4, s5, s6⟩, _⟩ := hs2
  obtain ⟨m1, m2, m3, m4⟩ := m
  unfold MbAt at HS
  simp only at HS s3 s4 s5 s6 HC HFIN
  have HBOX : Hid (∀ w', Apart (fun k => k = rb ∨ (Value.slice A n c).ownBlock = some k) w2 w' → w'.cell? ⟨N, 0, none⟩ = some (.int .i64 m1) ∧ w'.cell? ⟨N, 1, none⟩ = some (.int .i64 m2) ∧ w'.cell? ⟨N, 2, none⟩ = some (.bool m4) ∧ w'.cell? ⟨N, 3, none⟩ = some (.int .u64 m3)) := fun w' ha => by
    have hN' := ha.block N (heap_lt HN2.out) (fun e => by
      rcases e with e | e
      · have := HR.out.lt; have := HSZ.out; omega
      · have := own_lt HR.out.row e; have := HSZ.out; omega)
    exact four_heads (m := ⟨m1, m2, m3, m4⟩) (hN'.trans HN2.out)
  have HLT := Lib.hid HR2.out.lt
  rcases hJ2 with ⟨y1, y2⟩ | ⟨y1, y2⟩
  · subst y2
    have y3 : decide (J < 0) = true := decide_eq_true y1
    go_wp2_with fail
    have HD := Lib.hid (show Apart (fun k => k = rb ∨ (Value.slice A j c).ownBlock = some k) w2 w2.drew from (Apart.refl _ w2).drew1)
    have HDC := Lib.hid (show w2.drew.cell? ⟨rb, 1, none⟩ = some (.slice A j c) from s1)
    refine wp_region_N (S1 := fun W => Apart (fun k => k = rb ∨ (Value.slice A j c).ownBlock = some k) w2 W) (S2 := fun W => W.cell? ⟨rb, 1, none⟩ = some (.slice A j c)) (N := fun i => i != 11) (by kernel_rfl) ?_
    change wpAnyN _ _ _ _ _ _ _ 12 (Array.replicate 12 false) _ _
    refine wpAnyN_take false (i := 0) (v := .pointer (some ⟨rb, 0, none⟩)) rfl (by kernel_rfl) (by kernel_rfl) (by kernel_rfl) (fun _ _ _ h => h) (.inl ⟨by kernel_rfl, fun W hS => ?_⟩) ⟨HD.out, fun h => by cases h⟩ ?_
    · simp [execOp, Act.eval, go_sem]
    refine wpAnyN_take false (i := 1) (v := .pointer (some ⟨rb, 0, none⟩)) rfl (by kernel_rfl) (by kernel_rfl) (by kernel_rfl) (fun _ _ _ h => h) (.inl ⟨by kernel_rfl, fun W hS => ?_⟩) ⟨HD.out, fun h => by cases h⟩ ?_
    · simp [execOp, Act.eval, Act.put, go_sem]
    refine wpAnyN_take false (i := 2) (v := .pointer (some ⟨rb, 0, none⟩)) rfl (by kernel_rfl) (by kernel_rfl) (by kernel_rfl) (fun _ _ _ h => h) (.inl ⟨by kernel_rfl, fun W hS => ?_⟩) ⟨HD.out, fun h => by cases h⟩ ?_
    · simp [execOp, Act.eval, Act.put, go_sem]
    refine wpAnyN_take false (i := 3) (v := .pointer (some ⟨rb, 1, none⟩)) rfl (by kernel_rfl) (by kernel_rfl) (by kernel_rfl) (fun _ _ _ h => h) (.inl ⟨by kernel_rfl, fun W hS => ?_⟩) ⟨HD.out, fun h => by cases h⟩ ?_
    · simp [execOp, Act.eval, Act.put, go_sem]
    refine wpAnyN_take true (i := 4) (v := .slice A j c) rfl (by kernel_rfl) (by kernel_rfl) (by kernel_rfl) (fun _ _ _ h => h) (.inl ⟨by kernel_rfl, fun W hS => ?_⟩) ⟨HD.out, fun _ => HDC.out⟩ ?_
    · simp [execOp, Act.eval, Act.put, go_sem, hS.2 rfl]
    refine wpAnyN_take false (i := 5) (v := .int .i64 j) rfl (by kernel_rfl) (by kernel_rfl) (by kernel_rfl) (fun _ _ _ h => h) (.inl ⟨by kernel_rfl, fun W hS => ?_⟩) ⟨HD.out, fun h => by cases h⟩ ?_
    · simp [execOp, Act.eval, Act.put, go_sem]
    refine wpAnyN_take false (i := 6) (v := .agg #[.int .i64 m1, .int .i64 m2, .bool m4, .int .u64 m3]) rfl (by kernel_rfl) (by kernel_rfl) (by kernel_rfl) (fun _ _ _ h => h) (.inl ⟨by kernel_rfl, fun W hS => ?_⟩) ⟨HD.out, fun h => by cases h⟩ ?_
    · simp [execOp, Act.eval, Act.put, go_sem, (HBOX.out W hS.1).1, (HBOX.out W hS.1).2.1, (HBOX.out W hS.1).2.2.1, (HBOX.out W hS.1).2.2.2]
    simp only [Act.put]
    go_simp
    refine wpAnyN_step (i := 7) (by kernel_rfl) rfl (by kernel_rfl) ?_
    intro K' hK
    try simp only [Act.put]
    go_simp
    have HE := Lib.hid (Apart.of_below (F := (fun k => k = rb ∨ (Value.slice A j c).ownBlock = some k)) (stepA HDR (.cells #[.int .i64 m1, .int .i64 m2, .bool m4, .int .u64 m3] 76)))
    refine hK.out _ _ (HE.out) (fun _ _ => ((stepA HDR _).cell (p := ⟨rb, 1, none⟩) HLT.out).trans s1) ?_
    refine wpAnyN_step (i := 8) (by kernel_rfl) rfl (by kernel_rfl) ?_
    intro K' hK
    try simp only [Act.put]
    go_simp
    refine (HC.out _ (stepA HDR _) (alloc_block _ _ rfl)).mono ?_
    rintro e w5 ⟨mv', rfl, h1, h2, h3⟩
    obtain ⟨A', c', rfl⟩ := own_form h1
    have HEND := Lib.hid (HFIN.out _ _ w5 (stepA HDR _) h1 h2 h3)
    have HA5 := Lib.hid (HE.out.trans h2 (fun x _ hx => .inr hx))
    obtain ⟨g1, g2, _⟩ := HS.out w5 ((Apart.of_below (stepA HDR _)).trans h2 (fun _ _ h => h))
    clear h1 h2 h3
    refine hK.out _ _ (HA5.out) (fun _ _ => g1) ?_
    refine wpAnyN_take false (i := 9) (v := .pointer (some ⟨rb, 0, none⟩)) rfl (by kernel_rfl) (by kernel_rfl) (by kernel_rfl) (fun _ _ _ h => h) (.inl ⟨by kernel_rfl, fun W hS => ?_⟩) ⟨HA5.out, fun h => by cases h⟩ ?_
    · simp [execOp, Act.eval, go_sem]
    refine wpAnyN_take false (i := 10) (v := .pointer (some ⟨rb, 1, none⟩)) rfl (by kernel_rfl) (by kernel_rfl) (by kernel_rfl) (fun _ _ _ h => h) (.inl ⟨by kernel_rfl, fun W hS => ?_⟩) ⟨HA5.out, fun h => by cases h⟩ ?_
    · simp [execOp, Act.eval, Act.put, go_sem]
    refine wpAnyN_step (i := 11) (by kernel_rfl) rfl (by kernel_rfl) ?_
    intro K' hK
    try simp only [Act.put]
    go_simp
    refine hK.out _ _ (HA5.out.set (p := ⟨rb, 1, none⟩) (.inl (.inl rfl)) _) (fun h => absurd h (by decide)) ?_
    refine wpAnyN_done (by kernel_rfl) ?_
    try simp only [Act.put]
    try go_simp
    go_wp2
    refine bodyPost_end (results_none rfl _ _ _) rfl ?_
    exact HEND.out
  · subst y1
    have y3 : decide ((j : Int) < 0) = false := decide_eq_false (by omega)
    go_wp2_with fail
    have HD := Lib.hid (show Apart (fun k => k = rb ∨ (Value.slice A n c).ownBlock = some k) w2 w2.drew from (Apart.refl _ w2).drew1)
    have HDC := Lib.hid (show w2.drew.cell? ⟨rb, 1, none⟩ = some (.slice A n c) from s1)
    refine wp_region_N (S1 := fun W => Apart (fun k => k = rb ∨ (Value.slice A n c).ownBlock = some k) w2 W) (S2 := fun W => W.cell? ⟨rb, 1, none⟩ = some (.slice A n c)) (N := fun i => i != 11) (by kernel_rfl) ?_
    change wpAnyN _ _ _ _ _ _ _ 12 (Array.replicate 12 false) _ _
    refine wpAnyN_take false (i := 0) (v := .pointer (some ⟨rb, 0, none⟩)) rfl (by kernel_rfl) (by kernel_rfl) (by kernel_rfl) (fun _ _ _ h => h) (.inl ⟨by kernel_rfl, fun W hS => ?_⟩) ⟨HD.out, fun h => by cases h⟩ ?_
    · simp [execOp, Act.eval, go_sem]
    refine wpAnyN_take false (i := 1) (v := .pointer (some ⟨rb, 0, none⟩)) rfl (by kernel_rfl) (by kernel_rfl) (by kernel_rfl) (fun _ _ _ h => h) (.inl ⟨by kernel_rfl, fun W hS => ?_⟩) ⟨HD.out, fun h => by cases h⟩ ?_
    · simp [execOp, Act.eval, Act.put, go_sem]
    refine wpAnyN_take false (i := 2) (v := .pointer (some ⟨rb, 0, none⟩)) rfl (by kernel_rfl) (by kernel_rfl) (by kernel_rfl) (fun _ _ _ h => h) (.inl ⟨by kernel_rfl, fun W hS => ?_⟩) ⟨HD.out, fun h => by cases h⟩ ?_
    · simp [execOp, Act.eval, Act.put, go_sem]
    refine wpAnyN_take false (i := 3) (v := .pointer (some ⟨rb, 1, none⟩)) rfl (by kernel_rfl) (by kernel_rfl) (by kernel_rfl) (fun _ _ _ h => h) (.inl ⟨by kernel_rfl, fun W hS => ?_⟩) ⟨HD.out, fun h => by cases h⟩ ?_
    · simp [execOp, Act.eval, Act.put, go_sem]
    refine wpAnyN_take true (i := 4) (v := .slice A n c) rfl (by kernel_rfl) (by kernel_rfl) (by kernel_rfl) (fun _ _ _ h => h) (.inl ⟨by kernel_rfl, fun W hS => ?_⟩) ⟨HD.out, fun _ => HDC.out⟩ ?_
    · simp [execOp, Act.eval, Act.put, go_sem, hS.2 rfl]
    refine wpAnyN_take false (i := 5) (v := .int .i64 j) rfl (by kernel_rfl) (by kernel_rfl) (by kernel_rfl) (fun _ _ _ h => h) (.inl ⟨by kernel_rfl, fun W hS => ?_⟩) ⟨HD.out, fun h => by cases h⟩ ?_
    · simp [execOp, Act.eval, Act.put, go_sem]
    refine wpAnyN_take false (i := 6) (v := .agg #[.int .i64 m1, .int .i64 m2, .bool m4, .int .u64 m3]) rfl (by kernel_rfl) (by kernel_rfl) (by kernel_rfl) (fun _ _ _ h => h) (.inl ⟨by kernel_rfl, fun W hS => ?_⟩) ⟨HD.out, fun h => by cases h⟩ ?_
    · simp [execOp, Act.eval, Act.put, go_sem, (HBOX.out W hS.1).1, (HBOX.out W hS.1).2.1, (HBOX.out W hS.1).2.2.1, (HBOX.out W hS.1).2.2.2]
    simp only [Act.put]
    go_simp
    refine wpAnyN_step (i := 7) (by kernel_rfl) rfl (by kernel_rfl) ?_
    intro K' hK
    try simp only [Act.put]
    go_simp
    have HE := Lib.hid (Apart.of_below (F := (fun k => k = rb ∨ (Value.slice A n c).ownBlock = some k)) (stepA HDR (.cells #[.int .i64 m1, .int .i64 m2, .bool m4, .int .u64 m3] 76)))
    refine hK.out _ _ (HE.out) (fun _ _ => ((stepA HDR _).cell (p := ⟨rb, 1, none⟩) HLT.out).trans s1) ?_
    refine wpAnyN_step (i := 8) (by kernel_rfl) rfl (by kernel_rfl) ?_
    intro K' hK
    try simp only [Act.put]
    go_simp
    refine (HC.out _ (stepA HDR _) (alloc_block _ _ rfl)).mono ?_
    rintro e w5 ⟨mv', rfl, h1, h2, h3⟩
    obtain ⟨A', c', rfl⟩ := own_form h1
    have HEND := Lib.hid (HFIN.out _ _ w5 (stepA HDR _) h1 h2 h3)
    have HA5 := Lib.hid (HE.out.trans h2 (fun x _ hx => .inr hx))
    obtain ⟨g1, g2, _⟩ := HS.out w5 ((Apart.of_below (stepA HDR _)).trans h2 (fun _ _ h => h))
    clear h1 h2 h3
    refine hK.out _ _ (HA5.out) (fun _ _ => g1) ?_
    refine wpAnyN_take false (i := 9) (v := .pointer (some ⟨rb, 0, none⟩)) rfl (by kernel_rfl) (by kernel_rfl) (by kernel_rfl) (fun _ _ _ h => h) (.inl ⟨by kernel_rfl, fun W hS => ?_⟩) ⟨HA5.out, fun h => by cases h⟩ ?_
    · simp [execOp, Act.eval, go_sem]
    refine wpAnyN_take false (i := 10) (v := .pointer (some ⟨rb, 1, none⟩)) rfl (by kernel_rfl) (by kernel_rfl) (by kernel_rfl) (fun _ _ _ h => h) (.inl ⟨by kernel_rfl, fun W hS => ?_⟩) ⟨HA5.out, fun h => by cases h⟩ ?_
    · simp [execOp, Act.eval, Act.put, go_sem]
    refine wpAnyN_step (i := 11) (by kernel_rfl) rfl (by kernel_rfl) ?_
    intro K' hK
    try simp only [Act.put]
    go_simp
    refine hK.out _ _ (HA5.out.set (p := ⟨rb, 1, none⟩) (.inl (.inl rfl)) _) (fun h => absurd h (by decide)) ?_
    refine wpAnyN_done (by kernel_rfl) ?_
    try simp only [Act.put]
    try go_simp
    go_wp2
    refine bodyPost_end (results_none rfl _ _ _) rfl ?_
    exact HEND.out
end Go.Proofs.Ytanchjcifhbllaa
