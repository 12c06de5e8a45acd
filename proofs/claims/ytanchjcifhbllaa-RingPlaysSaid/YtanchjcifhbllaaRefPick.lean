/-
  The document's Pick.
  Conditions: the numbers are small.
-/
import Derived.Test.YtanchjcifhbllaaRefBlock
set_option linter.unusedVariables false
set_option linter.unusedSimpArgs false
namespace Go.Proofs.Ytanchjcifhbllaa
open Go.RowKit

set_option maxRecDepth 100000 in
set_option maxHeartbeats 4000000 in
theorem refPick_any (W : World) (v : Value) (s : Rg) (h : RowR W v s.l) (hs : Small s) (hsrt : Sorted s.l) : Calls Try.prog 27 #[refV v s] W (RefPostE W (plainA s).2 (plainA s).1) := by
  have hlen := hs.len
  obtain ⟨A, c, rfl, hat⟩ := h.lies
  obtain ⟨n, hn⟩ : ∃ n, s.l.length = n := ⟨_, rfl⟩
  have HN := Lib.hid hn
  have HS := Lib.hid hs
  have HAT := Lib.hid hat
  have HROW := Lib.hid (fun (w' : World) (hb : Below W.heap.size W w') => h.below hb)
  rw [hn] at hlen h HROW ⊢
  obtain ⟨N, hN⟩ : ∃ N, W.heap.size = N := ⟨_, rfl⟩
  obtain ⟨w2, hw2⟩ : ∃ w2, (W.alloc (.cells #[.slice A n c, .int .i64 s.num, .int .i64 s.den] 30)).alloc (.cells #[.slice none 0 0, .int .i64 0, .int .i64 0] 30) = w2 := ⟨_, rfl⟩
  have HX : Hid (Box W w2 N (.slice A n c) s.num s.den) := by rw [← hw2, ← hN]; exact box_new W _ _ _
  obtain ⟨r0, r1, r2, _⟩ := three_heads HX.out.ring
  obtain ⟨o0, o1, o2, o3, o4, o5⟩ := three_heads HX.out.res
  unfold refV at *
  clear h hs hat hn
  have HLE := Lib.hid (least_any w2 _ s (HROW.out w2 HX.out.bel) HS.out)
  unfold refV at HLE
  unfold plainA
  cases hb : best s.l with
  | none =>
    rw [hb] at HLE
    have e : idxI none = -1 := rfl
    rw [e] at HLE
    clear hb e
    simp only
    go_enter Try.func27, Try.ntmps27
    go_wp2_with fail
    clear hw2 hN

    refine HLE.out.mono ?_
    rintro e w3 ⟨rfl, hb⟩
    have HX3 := Lib.hid (HX.out.below hb)
    clear hb r0 r1 r2 o0 o1 o2 o3 o4 o5
    obtain ⟨r0, r1, r2, r3, r4, r5⟩ := three_heads HX3.out.ring
    obtain ⟨o0, o1, o2, o3, o4, o5⟩ := three_heads HX3.out.res
    have HDN := Lib.hid (HX3.out.done (s' := s) (HROW.out _ HX3.out.bel) (0))
    go_wp2_with fail
    refine bodyPost_ret (v := .tuple #[.agg #[.slice A n c, .int .i64 s.num, .int .i64 s.den], .int .i64 (0)]) (results_row_tmp rfl _ _ (N + 1) _ _ _ _ rfl HDN.out.1 Try.underlying30 rfl (Try.sizeRr _ _ _) _ rfl) rfl ?_
    exact HDN.out.2
  | some x =>
    obtain ⟨k, m⟩ := x
    rw [hb] at HLE
    have e : idxI (some (k, m)) = (k : Int) := rfl
    rw [e] at HLE
    obtain ⟨hm, _, _⟩ := best_some (fun m hm => (HS.out.mem m hm).1) hb
    simp only at hm
    have hkl := (List.getElem?_eq_some_iff.1 hm).1
    have hk1 : (k : Int) < (n : Int) := by have := HN.out; omega
    have hk0 : (0 : Int) ≤ (k : Int) := by omega
    have HMEM := Lib.hid (HS.out.mem m (List.mem_of_getElem? hm))
    obtain ⟨g, hA, hgl, hr⟩ := HAT.out k m hm
    subst hA
    have HGK : Hid (∀ w', Below W.heap.size W w' → RmAt w' g (k * 4) m) := fun w' hb => hr.keep (hb.block g hgl)
    have HSET := Lib.hid (fun (m' : Mb) (he : m.id = m'.id) => withL_set s.l k m m' hsrt hm he)
    simp only
    unfold pick0
    rename_i hbon hbmin
    clear e hm hkl hgl hr hb hsrt hbon hbmin
    obtain ⟨m1, m2, m3, m4⟩ := m
    simp only at HSET HMEM ⊢
    have hm3 : m3 ≤ 10000000 := HMEM.out.2.2
    obtain ⟨x, hx⟩ : ∃ x, m3 + 1 = x := ⟨_, rfl⟩
    have hx2 : (m3 : Int) + 1 = (x : Int) := by omega
    rw [hx]
    clear hx
    have mixed : Try.prog.follows .mixedOrders = true := by kernel_rfl
    go_enter Try.func27, Try.ntmps27

    go_wp2_with fail
    clear hw2 hN

    refine HLE.out.mono ?_
    rintro e w3 ⟨rfl, hb⟩
    have HX3 := Lib.hid (HX.out.below hb)
    clear hb r0 r1 r2 o0 o1 o2 o3 o4 o5
    obtain ⟨r0, r1, r2, r3, r4, r5⟩ := three_heads HX3.out.ring
    obtain ⟨o0, o1, o2, o3, o4, o5⟩ := three_heads HX3.out.res

    obtain ⟨a0, a1, a2, a3⟩ := HGK.out w3 HX3.out.bel
    simp only at a0 a1 a2 a3
    go_upto_region 5 with fail
    obtain ⟨N3, hN3⟩ : ∃ N3, w3.heap.size = N3 := ⟨_, rfl⟩
    rw [hN3]
    obtain ⟨w4, hw4⟩ : ∃ w4, w3.alloc (.cells #[.int .i64 m1, .int .i64 m2, .int .i64 m3, .bool m4] 71) = w4 := ⟨_, rfl⟩
    rw [hw4]
    have hb4 : Below w3.heap.size w3 w4 := by rw [← hw4]; exact (Below.refl _ w3).alloc (Nat.le_refl _) _
    have HN4 : Hid (w4.heap[N3]? = some (.cells #[.int .i64 m1, .int .i64 m2, .int .i64 m3, .bool m4] 71 (0, 0))) := by rw [← hw4]; exact alloc_block w3 _ hN3
    have HX4 := Lib.hid (HX3.out.below hb4)
    have HN3 : Hid (N + 1 < N3) := by rw [← hN3]; exact heap_lt HX3.out.res
    clear hw4 hN3 hb4 a0 a1 a2 a3 r0 r1 r2 r3 r4 r5 o0 o1 o2 o3 o4 o5
    obtain ⟨r0, r1, r2, r3, r4, r5⟩ := three_heads HX4.out.ring
    obtain ⟨o0, o1, o2, o3, o4, o5⟩ := three_heads HX4.out.res
    obtain ⟨b0, b1, b2, b3, b4⟩ := four_rm HN4.out
    have HX5 := Lib.hid (HX4.out.other (p := ⟨N3, 2, none⟩) HN3.out (.int .i64 x))
    have HN5 := Lib.hid (heap_setCell_mem w4 N3 2 _ _ _ (.int .i64 x) HN4.out)
    obtain ⟨w5, hw5⟩ : ∃ y, w4.setCell ⟨N3, 2, none⟩ (.int .i64 x) = y := ⟨_, rfl⟩
    rw [hw5] at HX5 HN5
    go_wp2_with fail
    clear hw5
    clear r0 r1 r2 r3 r4 r5 o0 o1 o2 o3 o4 o5 b0 b1 b2 b3 b4
    have HBX : Hid (∀ w', Apart (fun k => k = N + 1) w5 w' → (w'.cell? ⟨N, 0, none⟩ = some (.slice (some ⟨g, 0, none⟩) n c) ∧ w'.cell? ⟨N, 1, none⟩ = some (.int .i64 s.num) ∧ w'.cell? ⟨N, 2, none⟩ = some (.int .i64 s.den)) ∧ (w'.cell? ⟨N3, 0, none⟩ = some (.int .i64 m1) ∧ w'.cell? ⟨N3, 1, none⟩ = some (.int .i64 m2) ∧ w'.cell? ⟨N3, 2, none⟩ = some (.int .i64 x) ∧ w'.cell? ⟨N3, 3, none⟩ = some (.bool m4))) := fun w' ha => by
      obtain ⟨a0, a1, a2, _⟩ := three_heads ((ha.block N (heap_lt HX5.out.ring) (by omega)).trans HX5.out.ring)
      obtain ⟨d0, d1, d2, d3, _⟩ := four_rm ((ha.block N3 (heap_lt HN5.out) (by have := HN3.out; omega)).trans HN5.out)
      exact ⟨⟨a0, a1, a2⟩, d0, d1, d2, d3⟩
    have HDR : Hid (Apart (fun k => k = N + 1) w5 w5.drew) := (Apart.refl _ w5).drew1
    have HWI := Lib.hid (with_any w5.drew _ s ⟨m1, m2, x, m4⟩ (HROW.out w5.drew (below_drewN HX5.out.bel 1)) (by have := HS.out.len; omega))
    unfold refV rmA at HWI
    simp only at HWI
    refine wp_region_N (S1 := fun w' => Apart (fun k => k = N + 1) w5 w') (S2 := fun W => True) (N := fun i => i != 99) (by kernel_rfl) ?_
    change wpAnyN _ _ _ _ _ _ _ 7 (Array.replicate 7 false) _ _
    refine wpAnyN_take false (i := 0) (v := .agg #[.slice (some ⟨g, 0, none⟩) n c, .int .i64 s.num, .int .i64 s.den]) rfl (by kernel_rfl) (by kernel_rfl) (by kernel_rfl) (fun _ _ _ h => h) (.inl ⟨by kernel_rfl, fun W_ hS => ?_⟩) ⟨HDR.out, fun h => by cases h⟩ ?_
    · simp [execOp, Act.eval, go_sem, (HBX.out W_ hS.1).1.1, (HBX.out W_ hS.1).1.2.1, (HBX.out W_ hS.1).1.2.2]
    refine wpAnyN_take false (i := 1) (v := .agg #[.int .i64 m1, .int .i64 m2, .int .i64 x, .bool m4]) rfl (by kernel_rfl) (by kernel_rfl) (by kernel_rfl) (fun _ _ _ h => h) (.inl ⟨by kernel_rfl, fun W_ hS => ?_⟩) ⟨HDR.out, fun h => by cases h⟩ ?_
    · simp [execOp, Act.eval, Act.put, go_sem, (HBX.out W_ hS.1).2.1, (HBX.out W_ hS.1).2.2.1, (HBX.out W_ hS.1).2.2.2.1, (HBX.out W_ hS.1).2.2.2.2]
    refine wpAnyN_take false (i := 3) (v := .pointer (some ⟨N3, 0, none⟩)) rfl (by kernel_rfl) (by kernel_rfl) (by kernel_rfl) (fun _ _ _ h => h) (.inl ⟨by kernel_rfl, fun W_ hS => ?_⟩) ⟨HDR.out, fun h => by cases h⟩ ?_
    · simp [execOp, Act.eval, Act.put, go_sem]
    simp only [Act.put]
    go_simp
    refine wpAnyN_take false (i := 4) (v := .int .i64 m1) rfl (by kernel_rfl) (by kernel_rfl) (by kernel_rfl) (fun _ _ _ h => h) (.inl ⟨by kernel_rfl, fun W_ hS => ?_⟩) ⟨HDR.out, fun h => by cases h⟩ ?_
    · simp [execOp, Act.eval, go_sem, (HBX.out W_ hS.1).2.1]
    simp only [Act.put]
    go_simp
    refine wpAnyN_step (i := 2) (by kernel_rfl) rfl (by kernel_rfl) ?_
    intro K' hK
    try simp only [Act.put]
    go_simp
    refine HWI.out.mono ?_
    rintro e w6 ⟨v6, rfl, hr6, hb6⟩
    have HB6 := Lib.hid ((show Below w5.heap.size w5 w5.drew from below_drewN (Below.refl _ _) 1).trans hb6)
    have HX6 := Lib.hid (HX5.out.below HB6.out)
    obtain ⟨A6, c6, rfl, _⟩ := hr6.lies
    unfold refV
    simp only
    have HDN := Lib.hid (HX6.out.done (s' := { s with l := s.l.set k ⟨m1, m2, x, m4⟩ }) (v' := .slice A6 (withL s.l ⟨m1, m2, x, m4⟩).length c6) (by rw [HSET.out ⟨m1, m2, x, m4⟩ rfl] at hr6 ⊢; exact hr6) (m1 : Int))
    obtain ⟨o0, o1, o2, o3, o4, o5⟩ := three_heads HX6.out.res
    clear hr6 hb6
    generalize (withL s.l ⟨m1, m2, x, m4⟩).length = len6 at *
    refine hK.out _ _ (Apart.of_below (F := (fun k => k = N + 1)) HB6.out) (fun _ _ => trivial) ?_
    refine wpAnyN_step (i := 5) (by kernel_rfl) rfl (by kernel_rfl) ?_
    intro K' hK
    try simp only [Act.put]
    go_simp
    refine hK.out _ _ ((((Apart.of_below (F := (fun k => k = N + 1)) HB6.out).set (p := ⟨N + 1, 0, none⟩) (.inl rfl) _).set (p := ⟨N + 1, 1, none⟩) (.inl rfl) _).set (p := ⟨N + 1, 2, none⟩) (.inl rfl) _) (fun _ _ => trivial) ?_
    refine wpAnyN_take false (i := 6) (v := .int .i64 m1) rfl (by kernel_rfl) (by kernel_rfl) (by kernel_rfl) (fun _ _ _ h => h) (.inl ⟨by kernel_rfl, fun W_ hS => ?_⟩) ⟨(((Apart.of_below (F := (fun k => k = N + 1)) HB6.out).set (p := ⟨N + 1, 0, none⟩) (.inl rfl) _).set (p := ⟨N + 1, 1, none⟩) (.inl rfl) _).set (p := ⟨N + 1, 2, none⟩) (.inl rfl) _, fun h => by cases h⟩ ?_
    · simp [execOp, Act.eval, go_sem]
    refine wpAnyN_done (by kernel_rfl) ?_
    try simp only [Act.put]
    try go_simp
    go_wp2
    refine bodyPost_ret (v := .tuple #[.agg #[.slice A6 len6 c6, .int .i64 s.num, .int .i64 s.den], .int .i64 m1]) (results_row_tmp rfl _ _ (N + 1) _ _ _ _ rfl HDN.out.1 Try.underlying30 rfl (Try.sizeRr _ _ _) _ rfl) rfl ?_
    exact HDN.out.2
end Go.Proofs.Ytanchjcifhbllaa
