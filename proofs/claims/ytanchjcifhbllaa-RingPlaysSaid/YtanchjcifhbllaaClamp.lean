/-
  A count is brought near a floor.
  Conditions: the member lies in memory; the floor is a fraction that fits.
-/
import Derived.Test.YtanchjcifhbllaaJoin
set_option linter.unusedVariables false
namespace Go.Proofs.Ytanchjcifhbllaa
open Go.RowKit Go.Sort

def ClampPost (W : World) (g o x : Nat) (e : Ending) (w' : World) : Prop := ∃ w1, e = .returned (.tuple #[]) ∧ Below W.heap.size W w1 ∧ w' = w1.setCell ⟨g, o + 3, none⟩ (.int .u64 x)
theorem clampN_int (f : Nat × Nat) (w n : Nat) : ((clampN f w n : Nat) : Int) = min (max (n : Int) (upN f w : Nat)) (downN f w + 1 : Nat) := by
  unfold clampN
  omega
set_option maxRecDepth 100000 in
set_option maxHeartbeats 2000000 in
theorem clamp_any (W : World) (g o : Nat) (m : Mb) (f : Nat × Nat) (h : MbAt W g o m) (hg : g < W.heap.size) (hfr : ∀ j, W.frozen? ⟨g, j, none⟩ = false) (hf : Frac f) (hw : m.w ≤ 1000) (hn : m.n < 18446744073709551616) :
    Calls Try.prog 41 #[.pointer (some ⟨g, o, none⟩), passA f.1 f.2] W (ClampPost W g o (clampN f m.w m.n)) := by
  obtain ⟨N, hN⟩ : ∃ N, W.heap.size = N := ⟨_, rfl⟩
  have HSZ := Lib.hid hN
  have HG := Lib.hid hg
  obtain ⟨w1, hW1⟩ : ∃ W1, W.alloc (.cells #[.int .u64 f.1, .int .u64 f.2] 58) = W1 := ⟨_, rfl⟩
  have hb1 : Below W.heap.size W w1 := by rw [← hW1]; exact (Below.refl _ W).alloc (Nat.le_refl _) _
  have hn1 : w1.heap[N]? = some (.cells #[.int .u64 f.1, .int .u64 f.2] 58 (0, 0)) := by rw [← hW1]; exact alloc_block W _ hN
  have HB1 := Lib.hid hb1
  have HN1 := Lib.hid hn1
  have HT := Lib.hid (fun W => times_any f m.w hf hw W)
  have hz1 : N < w1.heap.size := heap_lt hn1
  have hz2 : g < w1.heap.size := Nat.lt_of_lt_of_le hg hb1.size
  have HC : Hid (∀ w', Below w1.heap.size w1 w' → w'.cell? ⟨N, 0, none⟩ = some (.int .u64 f.1) ∧ w'.cell? ⟨N, 1, none⟩ = some (.int .u64 f.2) ∧ w'.cell? ⟨g, o + 1, none⟩ = some (.int .i64 m.w) ∧ w'.cell? ⟨g, o + 3, none⟩ = some (.int .u64 m.n) ∧ w'.frozen? ⟨g, o + 3, none⟩ = false) := fun w' hb => by
    obtain ⟨a1, a2, _⟩ := two_heads (keep_block HN1.out hb)
    have e : w'.heap[g]? = W.heap[g]? := (hb.block g hz2).trans (HB1.out.block g HG.out)
    obtain ⟨b1, b2, b3, b4⟩ := h.keep e
    refine ⟨a1, a2, b2, b4, ?_⟩
    rw [← hfr (o + 3)]
    simp [World.frozen?, e]
  obtain ⟨u, hu⟩ : ∃ u, upN f m.w = u := ⟨_, rfl⟩
  obtain ⟨d, hd⟩ : ∃ d, downN f m.w + 1 = d := ⟨_, rfl⟩
  have hdl := hf.down hw
  have hul := hf.up hw
  rw [hu] at hul
  have hdl2 : d ≤ 1099511627776001 := by omega
  have HRES := Lib.hid (clampN_int f m.w m.n)
  rw [hu, hd] at HT HRES
  obtain ⟨x, hx⟩ : ∃ x, clampN f m.w m.n = x := ⟨_, rfl⟩
  rw [hx] at HRES ⊢
  unfold passA at HT ⊢
  clear hb1 hn1 hf hw h hfr hg hz1 hz2 hu hd hx hdl
  obtain ⟨m1, m2, m3, m4⟩ := m
  obtain ⟨fa, fb⟩ := f
  simp only at HC HT HRES hn hW1
  have HDR := Lib.hid (show Below w1.heap.size w1 w1.drew from below_drewN (Below.refl _ _) 1)
  go_enter Try.func41, Try.ntmps41
  go_wp2_with fail
  clear hW1 hN
  refine wp_region_N (S1 := fun W => Below w1.heap.size w1 W) (S2 := fun W => True) (N := fun i => i != 99) (by kernel_rfl) ?_
  change wpAnyN _ _ _ _ _ _ _ 12 (Array.replicate 12 false) _ _
  refine wpAnyN_take false (i := 0) (v := .agg #[.int .u64 fa, .int .u64 fb]) rfl (by kernel_rfl) (by kernel_rfl) (by kernel_rfl) (fun _ _ _ h => h) (.inl ⟨by kernel_rfl, fun W hS => ?_⟩) ⟨HDR.out, fun h => by cases h⟩ ?_
  · simp [execOp, Act.eval, go_sem, (HC.out W hS.1).1, (HC.out W hS.1).2.1]
  refine wpAnyN_take false (i := 1) (v := .pointer (some ⟨g, o, none⟩)) rfl (by kernel_rfl) (by kernel_rfl) (by kernel_rfl) (fun _ _ _ h => h) (.inl ⟨by kernel_rfl, fun W hS => ?_⟩) ⟨HDR.out, fun h => by cases h⟩ ?_
  · simp [execOp, Act.eval, Act.put, go_sem]
  refine wpAnyN_take false (i := 2) (v := .pointer (some ⟨g, o, none⟩)) rfl (by kernel_rfl) (by kernel_rfl) (by kernel_rfl) (fun _ _ _ h => h) (.inl ⟨by kernel_rfl, fun W hS => ?_⟩) ⟨HDR.out, fun h => by cases h⟩ ?_
  · simp [execOp, Act.eval, Act.put, go_sem]
  refine wpAnyN_take false (i := 3) (v := .pointer (some ⟨g, o, none⟩)) rfl (by kernel_rfl) (by kernel_rfl) (by kernel_rfl) (fun _ _ _ h => h) (.inl ⟨by kernel_rfl, fun W hS => ?_⟩) ⟨HDR.out, fun h => by cases h⟩ ?_
  · simp [execOp, Act.eval, Act.put, go_sem]
  refine wpAnyN_take false (i := 4) (v := .pointer (some ⟨g, o + 1, none⟩)) rfl (by kernel_rfl) (by kernel_rfl) (by kernel_rfl) (fun _ _ _ h => h) (.inl ⟨by kernel_rfl, fun W hS => ?_⟩) ⟨HDR.out, fun h => by cases h⟩ ?_
  · simp [execOp, Act.eval, Act.put, go_sem]
  refine wpAnyN_take false (i := 5) (v := .int .i64 m2) rfl (by kernel_rfl) (by kernel_rfl) (by kernel_rfl) (fun _ _ _ h => h) (.inl ⟨by kernel_rfl, fun W hS => ?_⟩) ⟨HDR.out, fun h => by cases h⟩ ?_
  · simp [execOp, Act.eval, Act.put, go_sem, (HC.out W hS.1).2.2.1]
  simp only [Act.put]
  go_simp
  refine wpAnyN_step (i := 6) (by kernel_rfl) rfl (by kernel_rfl) ?_
  intro K' hK
  try simp only [Act.put]
  go_simp
  refine (HT.out _).mono ?_
  rintro e w2 ⟨rfl, hb⟩
  have H2 := Lib.hid (HDR.out.trans (hb.mono HDR.out.size))
  clear hb
  refine hK.out _ _ (H2.out) (fun _ _ => trivial) ?_
  refine wpAnyN_take false (i := 7) (v := .tuple #[.int .u64 u, .int .u64 d]) rfl (by kernel_rfl) (by kernel_rfl) (by kernel_rfl) (fun _ _ _ h => h) (.inl ⟨by kernel_rfl, fun W hS => ?_⟩) ⟨H2.out, fun h => by cases h⟩ ?_
  · simp [execOp, Act.eval, go_sem]
  refine wpAnyN_take false (i := 8) (v := .int .u64 u) rfl (by kernel_rfl) (by kernel_rfl) (by kernel_rfl) (fun _ _ _ h => h) (.inl ⟨by kernel_rfl, fun W hS => ?_⟩) ⟨H2.out, fun h => by cases h⟩ ?_
  · simp [execOp, Act.eval, Act.put, go_sem]
  refine wpAnyN_take false (i := 9) (v := .int .u64 d) rfl (by kernel_rfl) (by kernel_rfl) (by kernel_rfl) (fun _ _ _ h => h) (.inl ⟨by kernel_rfl, fun W hS => ?_⟩) ⟨H2.out, fun h => by cases h⟩ ?_
  · simp [execOp, Act.eval, Act.put, go_sem]
  simp only [Act.put]
  go_simp
  refine wpAnyN_take false (i := 10) (v := .int .u64 u) rfl (by kernel_rfl) (by kernel_rfl) (by kernel_rfl) (fun _ _ _ h => h) (.inl ⟨by kernel_rfl, fun W hS => ?_⟩) ⟨H2.out, fun h => by cases h⟩ ?_
  · simp [execOp, Act.eval, go_sem]
  refine wpAnyN_take false (i := 11) (v := .int .u64 d) rfl (by kernel_rfl) (by kernel_rfl) (by kernel_rfl) (fun _ _ _ h => h) (.inl ⟨by kernel_rfl, fun W hS => ?_⟩) ⟨H2.out, fun h => by cases h⟩ ?_
  · simp [execOp, Act.eval, Act.put, go_sem]
  refine wpAnyN_done (by kernel_rfl) ?_
  try simp only [Act.put]
  try go_simp
  obtain ⟨_, _, c2, c3, c4⟩ := HC.out w2 H2.out
  go_wp2
  refine bodyPost_end (results_none rfl _ _ _) rfl ?_
  refine ⟨w2, rfl, ?_, by rw [HRES.out]⟩
  exact HB1.out.trans (H2.out.mono HB1.out.size)
end Go.Proofs.Ytanchjcifhbllaa
