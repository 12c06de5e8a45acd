/-
  The document's Wake.
  Conditions: the numbers are small.
-/
import Derived.Test.YtanchjcifhbllaaRefBlock
set_option linter.unusedVariables false
set_option linter.unusedSimpArgs false
namespace Go.Proofs.Ytanchjcifhbllaa
open Go.RowKit

set_option maxRecDepth 100000 in
set_option maxHeartbeats 4000000 in
theorem refWake_any (W : World) (v : Value) (s : Rg) (id : Int) (h : RowR W v s.l) (hs : Small s) (hsrt : Sorted s.l) : Calls Try.prog 46 #[refV v s, .int .i64 id] W (RefPostE W (wakeA s id).2 (wakeA s id).1) := by
  have hlen := hs.len
  obtain ⟨A, c, rfl, hat⟩ := h.lies
  obtain ⟨n, hn⟩ : ∃ n, s.l.length = n := ⟨_, rfl⟩
  have HN := Lib.hid hn
  have HS := Lib.hid hs
  have HAT := Lib.hid hat
  have HROW := Lib.hid (fun (w' : World) (hb : Below W.heap.size W w') => h.below hb)
  rw [hn] at hlen h HROW ⊢
  obtain ⟨N, hN⟩ : ∃ N, W.heap.size = N := ⟨_, rfl⟩
  obtain ⟨w2, hw2⟩ : ∃ w2, (W.alloc (.cells #[.slice A n c, .int .i64 s.num, .int .i64 s.den] 30)).alloc (.cells #[.slice none 0 0, .int .i64 0, .int .i64 0] 30) = w2 := ⟨_, rfl⟩
  have HX : Hid (Box W w2 N (.slice A n c) s.num s.den) := by rw [← hw2, ← hN]; exact box_new W _ _ _
  obtain ⟨r0, r1, r2, _⟩ := three_heads HX.out.ring
  obtain ⟨o0, o1, o2, o3, o4, o5⟩ := three_heads HX.out.res
  have HF2 := Lib.hid (refFind_any w2 _ s id (HROW.out w2 HX.out.bel) (by have := HS.out.len; omega))
  unfold refV at *
  clear h hs hat hn
  unfold wakeA
  cases hq : findK s.l id with
  | none =>
    rw [hq] at HF2
    have e : idxO none = -1 := rfl
    rw [e] at HF2
    clear hq e
    go_enter Try.func46, Try.ntmps46
    go_wp2_with fail
    clear hw2 hN
    refine HF2.out.mono ?_
    rintro e w3 ⟨rfl, hb⟩
    have HX3 := Lib.hid (HX.out.below hb)
    clear hb r0 r1 r2 o0 o1 o2 o3 o4 o5
    obtain ⟨r0, r1, r2, r3, r4, r5⟩ := three_heads HX3.out.ring
    obtain ⟨o0, o1, o2, o3, o4, o5⟩ := three_heads HX3.out.res
    have HDN := Lib.hid (HX3.out.done (s' := s) (HROW.out _ HX3.out.bel) (10))
    go_wp2_with fail
    refine bodyPost_ret (v := .tuple #[.agg #[.slice A n c, .int .i64 s.num, .int .i64 s.den], .int .i64 (10)]) (results_row_tmp rfl _ _ (N + 1) _ _ _ _ rfl HDN.out.1 Try.underlying30 rfl (Try.sizeRr _ _ _) _ rfl) rfl ?_
    exact HDN.out.2

  | some k =>
    rw [hq] at HF2
    have e : idxO (some k) = (k : Int) := rfl
    rw [e] at HF2
    obtain ⟨m, hm, hid⟩ := findK_some hq
    have HM := Lib.hid hm
    have hkl := (List.getElem?_eq_some_iff.1 hm).1
    have hk1 : (k : Int) < (n : Int) := by have := HN.out; omega
    have hk0 : (0 : Int) ≤ (k : Int) := by omega
    have HMEM := Lib.hid (HS.out.mem m (List.mem_of_getElem? hm))
    obtain ⟨g, hA, hgl, hr⟩ := HAT.out k m hm
    subst hA
    have HGK : Hid (∀ w', Below W.heap.size W w' → RmAt w' g (k * 4) m) := fun w' hb => hr.keep (hb.block g hgl)
    have HSET := Lib.hid (fun (m' : Mb) (he : m.id = m'.id) => withL_set s.l k m m' hsrt hm he)
    simp only [memK_at hm]
    clear e hid hm hkl hgl hr hq hsrt
    obtain ⟨m1, m2, m3, m4⟩ := m
    simp only at HSET HMEM ⊢
    cases m4 with
    | true =>
      rw [if_pos rfl]
      go_enter Try.func46, Try.ntmps46

      go_wp2_with fail
      clear hw2 hN

      refine HF2.out.mono ?_
      rintro e w3 ⟨rfl, hb⟩
      have HX3 := Lib.hid (HX.out.below hb)
      clear hb r0 r1 r2 o0 o1 o2 o3 o4 o5
      obtain ⟨r0, r1, r2, r3, r4, r5⟩ := three_heads HX3.out.ring
      obtain ⟨o0, o1, o2, o3, o4, o5⟩ := three_heads HX3.out.res

      obtain ⟨a0, a1, a2, a3⟩ := HGK.out w3 HX3.out.bel
      simp only at a0 a1 a2 a3
      go_upto_region 5 with fail
      obtain ⟨N3, hN3⟩ : ∃ N3, w3.heap.size = N3 := ⟨_, rfl⟩
      rw [hN3]
      obtain ⟨w4, hw4⟩ : ∃ w4, w3.alloc (.cells #[.int .i64 m1, .int .i64 m2, .int .i64 m3, .bool true] 71) = w4 := ⟨_, rfl⟩
      rw [hw4]
      have hb4 : Below w3.heap.size w3 w4 := by rw [← hw4]; exact (Below.refl _ w3).alloc (Nat.le_refl _) _
      have HN4 : Hid (w4.heap[N3]? = some (.cells #[.int .i64 m1, .int .i64 m2, .int .i64 m3, .bool true] 71 (0, 0))) := by rw [← hw4]; exact alloc_block w3 _ hN3
      have HX4 := Lib.hid (HX3.out.below hb4)
      have HN3 : Hid (N + 1 < N3) := by rw [← hN3]; exact heap_lt HX3.out.res
      clear hw4 hN3 hb4 a0 a1 a2 a3 r0 r1 r2 r3 r4 r5 o0 o1 o2 o3 o4 o5
      obtain ⟨r0, r1, r2, r3, r4, r5⟩ := three_heads HX4.out.ring
      obtain ⟨o0, o1, o2, o3, o4, o5⟩ := three_heads HX4.out.res
      obtain ⟨b0, b1, b2, b3, b4⟩ := four_rm HN4.out
      have HDN := Lib.hid (HX4.out.done (s' := s) (HROW.out _ HX4.out.bel) (15))
      go_wp2_with fail
      refine bodyPost_ret (v := .tuple #[.agg #[.slice (some ⟨g, 0, none⟩) n c, .int .i64 s.num, .int .i64 s.den], .int .i64 (15)]) (results_row_tmp rfl _ _ (N + 1) _ _ _ _ rfl HDN.out.1 Try.underlying30 rfl (Try.sizeRr _ _ _) _ rfl) rfl ?_
      exact HDN.out.2

    | false =>
      rw [if_neg (by decide)]
      unfold wakeR
      simp only
      have HIN := Lib.hid (fun (w' : World) (hb : Below W.heap.size W w') => in_any w' _ s m2 m3 (HROW.out w' hb) HS.out HMEM.out.2.1 (by have := HMEM.out.2.2; omega))
      obtain ⟨x, hx⟩ : ∃ x, clampN (floorN s) m2 m3 = x := ⟨_, rfl⟩
      rw [hx] at HIN ⊢
      unfold refV at HIN
      clear hx
      go_enter Try.func46, Try.ntmps46

      go_wp2_with fail
      clear hw2 hN

      refine HF2.out.mono ?_
      rintro e w3 ⟨rfl, hb⟩
      have HX3 := Lib.hid (HX.out.below hb)
      clear hb r0 r1 r2 o0 o1 o2 o3 o4 o5
      obtain ⟨r0, r1, r2, r3, r4, r5⟩ := three_heads HX3.out.ring
      obtain ⟨o0, o1, o2, o3, o4, o5⟩ := three_heads HX3.out.res

      obtain ⟨a0, a1, a2, a3⟩ := HGK.out w3 HX3.out.bel
      simp only at a0 a1 a2 a3
      go_upto_region 5 with fail
      obtain ⟨N3, hN3⟩ : ∃ N3, w3.heap.size = N3 := ⟨_, rfl⟩
      rw [hN3]
      obtain ⟨w4, hw4⟩ : ∃ w4, w3.alloc (.cells #[.int .i64 m1, .int .i64 m2, .int .i64 m3, .bool false] 71) = w4 := ⟨_, rfl⟩
      rw [hw4]
      have hb4 : Below w3.heap.size w3 w4 := by rw [← hw4]; exact (Below.refl _ w3).alloc (Nat.le_refl _) _
      have HN4 : Hid (w4.heap[N3]? = some (.cells #[.int .i64 m1, .int .i64 m2, .int .i64 m3, .bool false] 71 (0, 0))) := by rw [← hw4]; exact alloc_block w3 _ hN3
      have HX4 := Lib.hid (HX3.out.below hb4)
      have HN3 : Hid (N + 1 < N3) := by rw [← hN3]; exact heap_lt HX3.out.res
      clear hw4 hN3 hb4 a0 a1 a2 a3 r0 r1 r2 r3 r4 r5 o0 o1 o2 o3 o4 o5
      obtain ⟨r0, r1, r2, r3, r4, r5⟩ := three_heads HX4.out.ring
      obtain ⟨o0, o1, o2, o3, o4, o5⟩ := three_heads HX4.out.res
      obtain ⟨b0, b1, b2, b3, b4⟩ := four_rm HN4.out

      go_wp2_with fail
      refine (HIN.out _ HX4.out.bel).mono ?_
      rintro e w5 ⟨rfl, hb⟩
      have HX5 := Lib.hid (HX4.out.below hb)
      have HN5 := Lib.hid (keep_block HN4.out hb)
      clear hb
      clear r0 r1 r2 r3 r4 r5 o0 o1 o2 o3 o4 o5 b0 b1 b2 b3 b4
      obtain ⟨r0, r1, r2, r3, r4, r5⟩ := three_heads HX5.out.ring
      obtain ⟨o0, o1, o2, o3, o4, o5⟩ := three_heads HX5.out.res
      obtain ⟨b0, b1, b2, b3, b4⟩ := four_rm HN5.out
      have HX6 := Lib.hid (HX5.out.other (p := ⟨N3, 2, none⟩) HN3.out (.int .i64 x))
      have HN6 := Lib.hid (heap_setCell_mem w5 N3 2 _ _ _ (.int .i64 x) HN5.out)
      obtain ⟨w6, hw6⟩ : ∃ y, w5.setCell ⟨N3, 2, none⟩ (.int .i64 x) = y := ⟨_, rfl⟩
      rw [hw6] at HX6 HN6
      obtain ⟨y0, y1, y2, y3, y4⟩ := four_rm HN6.out
      have HX7 := Lib.hid (HX6.out.other (p := ⟨N3, 3, none⟩) HN3.out (.bool true))
      have HN7 := Lib.hid (heap_setCell_mem w6 N3 3 _ _ _ (.bool true) HN6.out)
      obtain ⟨w7, hw7⟩ : ∃ y, w6.setCell ⟨N3, 3, none⟩ (.bool true) = y := ⟨_, rfl⟩
      rw [hw7] at HX7 HN7
      go_upto_region 9 with fail
      clear hw6 hw7 y0 y1 y2 y3 y4
      clear r0 r1 r2 r3 r4 r5 o0 o1 o2 o3 o4 o5 b0 b1 b2 b3 b4
      obtain ⟨r0, r1, r2, r3, r4, r5⟩ := three_heads HX7.out.ring
      obtain ⟨o0, o1, o2, o3, o4, o5⟩ := three_heads HX7.out.res
      obtain ⟨b0, b1, b2, b3, b4⟩ := four_rm HN7.out
      have HWI := Lib.hid (with_any w7 _ s ⟨m1, m2, x, true⟩ (HROW.out w7 HX7.out.bel) (by have := HS.out.len; show s.l.length ≤ 100; omega))
      unfold refV rmA at HWI
      simp only at HWI
      go_wp2_with fail
      refine HWI.out.mono ?_
      rintro e w9 ⟨v9, rfl, hr9, hb9⟩
      have HX9 := Lib.hid (HX7.out.below hb9)
      obtain ⟨A9, c9, rfl, _⟩ := hr9.lies
      unfold refV
      simp only
      have HDN := Lib.hid (HX9.out.done (s' := { s with l := s.l.set k ⟨m1, m2, x, true⟩ }) (v' := .slice A9 (withL s.l ⟨m1, m2, x, true⟩).length c9) (by rw [HSET.out ⟨m1, m2, x, true⟩ rfl] at hr9 ⊢; exact hr9) 0)
      obtain ⟨o0, o1, o2, o3, o4, o5⟩ := three_heads HX9.out.res
      clear hr9 hb9 r0 r1 r2 r3 r4 r5 b0 b1 b2 b3 b4
      generalize (withL s.l ⟨m1, m2, x, true⟩).length = len9 at *
      go_wp2_with fail
      refine bodyPost_ret (v := .tuple #[.agg #[.slice A9 len9 c9, .int .i64 s.num, .int .i64 s.den], .int .i64 0]) (results_row_tmp rfl _ _ (N + 1) _ _ _ _ rfl HDN.out.1 Try.underlying30 rfl (Try.sizeRr _ _ _) _ rfl) rfl ?_
      exact HDN.out.2
end Go.Proofs.Ytanchjcifhbllaa
