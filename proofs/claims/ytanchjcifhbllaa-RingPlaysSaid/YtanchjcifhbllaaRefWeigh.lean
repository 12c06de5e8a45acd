/-
  The document's Weigh.
  Conditions: the numbers are small.
-/
import Derived.Test.YtanchjcifhbllaaRefBlock
set_option linter.unusedVariables false
set_option linter.unusedSimpArgs false
namespace Go.Proofs.Ytanchjcifhbllaa
open Go.RowKit

set_option maxRecDepth 100000 in
set_option maxHeartbeats 4000000 in
theorem refWeigh_any (W : World) (v : Value) (s : Rg) (id w : Int) (h : RowR W v s.l) (hs : Small s) (hsrt : Sorted s.l) : Calls Try.prog 47 #[refV v s, .int .i64 id, .int .i64 w] W (RefPostE W (weighA s id w).2 (weighA s id w).1) := by
  have hlen := hs.len
  obtain ⟨A, c, rfl, hat⟩ := h.lies
  obtain ⟨n, hn⟩ : ∃ n, s.l.length = n := ⟨_, rfl⟩
  have HN := Lib.hid hn
  have HS := Lib.hid hs
  have HAT := Lib.hid hat
  have HROW := Lib.hid (fun (w' : World) (hb : Below W.heap.size W w') => h.below hb)
  rw [hn] at hlen h HROW ⊢
  obtain ⟨N, hN⟩ : ∃ N, W.heap.size = N := ⟨_, rfl⟩
  obtain ⟨w2, hw2⟩ : ∃ w2, (W.alloc (.cells #[.slice A n c, .int .i64 s.num, .int .i64 s.den] 30)).alloc (.cells #[.slice none 0 0, .int .i64 0, .int .i64 0] 30) = w2 := ⟨_, rfl⟩
  have HX : Hid (Box W w2 N (.slice A n c) s.num s.den) := by rw [← hw2, ← hN]; exact box_new W _ _ _
  obtain ⟨r0, r1, r2, _⟩ := three_heads HX.out.ring
  obtain ⟨o0, o1, o2, o3, o4, o5⟩ := three_heads HX.out.res
  have HF2 := Lib.hid (refFind_any w2 _ s id (HROW.out w2 HX.out.bel) (by have := HS.out.len; omega))
  unfold refV at *
  clear h hs hat hn
  unfold weighA
  cases hq : findK s.l id with
  | none =>
    rw [hq] at HF2
    have e : idxO none = -1 := rfl
    rw [e] at HF2
    clear hq e
    go_enter Try.func47, Try.ntmps47
    go_wp2_with fail
    clear hw2 hN
    refine HF2.out.mono ?_
    rintro e w3 ⟨rfl, hb⟩
    have HX3 := Lib.hid (HX.out.below hb)
    clear hb r0 r1 r2 o0 o1 o2 o3 o4 o5
    obtain ⟨r0, r1, r2, r3, r4, r5⟩ := three_heads HX3.out.ring
    obtain ⟨o0, o1, o2, o3, o4, o5⟩ := three_heads HX3.out.res
    have HDN := Lib.hid (HX3.out.done (s' := s) (HROW.out _ HX3.out.bel) (10))
    go_wp2_with fail
    refine bodyPost_ret (v := .tuple #[.agg #[.slice A n c, .int .i64 s.num, .int .i64 s.den], .int .i64 (10)]) (results_row_tmp rfl _ _ (N + 1) _ _ _ _ rfl HDN.out.1 Try.underlying30 rfl (Try.sizeRr _ _ _) _ rfl) rfl ?_
    exact HDN.out.2

  | some k =>
    rw [hq] at HF2
    have e : idxO (some k) = (k : Int) := rfl
    rw [e] at HF2
    obtain ⟨m, hm, hid⟩ := findK_some hq
    have HM := Lib.hid hm
    have hkl := (List.getElem?_eq_some_iff.1 hm).1
    have hk1 : (k : Int) < (n : Int) := by have := HN.out; omega
    have hk0 : (0 : Int) ≤ (k : Int) := by omega
    have HMEM := Lib.hid (HS.out.mem m (List.mem_of_getElem? hm))
    obtain ⟨g, hA, hgl, hr⟩ := HAT.out k m hm
    subst hA
    have HGK : Hid (∀ w', Below W.heap.size W w' → RmAt w' g (k * 4) m) := fun w' hb => hr.keep (hb.block g hgl)
    have HSET := Lib.hid (fun (m' : Mb) (he : m.id = m'.id) => withL_set s.l k m m' hsrt hm he)
    simp only [memK_at hm]
    clear e hid hm hkl hgl hr hq hsrt
    by_cases hwr : w < 1 ∨ 1000 < w
    · rw [if_pos hwr]
      by_cases h3 : w < 1
      · have q3 : decide (w < 1) = true := decide_eq_true h3
        clear hwr
        go_enter Try.func47, Try.ntmps47
        go_wp2_with fail
        clear hw2 hN

        refine HF2.out.mono ?_
        rintro e w3 ⟨rfl, hb⟩
        have HX3 := Lib.hid (HX.out.below hb)
        clear hb r0 r1 r2 o0 o1 o2 o3 o4 o5
        obtain ⟨r0, r1, r2, r3, r4, r5⟩ := three_heads HX3.out.ring
        obtain ⟨o0, o1, o2, o3, o4, o5⟩ := three_heads HX3.out.res
        have HDN := Lib.hid (HX3.out.done (s' := s) (HROW.out _ HX3.out.bel) (22))
        go_wp2_with fail
        refine bodyPost_ret (v := .tuple #[.agg #[.slice (some ⟨g, 0, none⟩) n c, .int .i64 s.num, .int .i64 s.den], .int .i64 (22)]) (results_row_tmp rfl _ _ (N + 1) _ _ _ _ rfl HDN.out.1 Try.underlying30 rfl (Try.sizeRr _ _ _) _ rfl) rfl ?_
        exact HDN.out.2

      · have q3 : decide (w < 1) = false := decide_eq_false h3
        have q4 : decide (1000 < w) = true := decide_eq_true (by omega)
        clear hwr
        go_enter Try.func47, Try.ntmps47
        go_wp2_with fail
        clear hw2 hN

        refine HF2.out.mono ?_
        rintro e w3 ⟨rfl, hb⟩
        have HX3 := Lib.hid (HX.out.below hb)
        clear hb r0 r1 r2 o0 o1 o2 o3 o4 o5
        obtain ⟨r0, r1, r2, r3, r4, r5⟩ := three_heads HX3.out.ring
        obtain ⟨o0, o1, o2, o3, o4, o5⟩ := three_heads HX3.out.res
        have HDN := Lib.hid (HX3.out.done (s' := s) (HROW.out _ HX3.out.bel) (22))
        go_wp2_with fail
        refine bodyPost_ret (v := .tuple #[.agg #[.slice (some ⟨g, 0, none⟩) n c, .int .i64 s.num, .int .i64 s.den], .int .i64 (22)]) (results_row_tmp rfl _ _ (N + 1) _ _ _ _ rfl HDN.out.1 Try.underlying30 rfl (Try.sizeRr _ _ _) _ rfl) rfl ?_
        exact HDN.out.2

    · rw [if_neg hwr]
      have q3 : decide (w < 1) = false := decide_eq_false (by omega)
      have q4 : decide (1000 < w) = false := decide_eq_false (by omega)
      obtain ⟨v, rfl⟩ : ∃ v : Nat, w = v := ⟨w.toNat, by omega⟩
      rw [Int.toNat_natCast]
      have hv : v ≤ 1000 := by omega
      obtain ⟨m1, m2, m3, m4⟩ := m
      simp only at HSET HMEM ⊢
      unfold weighR weighM
      simp only
      obtain ⟨p, hp⟩ : ∃ p, m3 * v = p := ⟨_, rfl⟩
      have hpl : p ≤ 10000000 * 1000 := by rw [← hp]; exact Nat.mul_le_mul HMEM.out.2.2 hv
      have HUP := Lib.hid (fun W => up_any p m2 (by omega) HMEM.out.1 (by have := HMEM.out.2.1; omega) W)
      obtain ⟨u, hu⟩ : ∃ u, (p + m2 - 1) / m2 = u := ⟨_, rfl⟩
      have hul : u ≤ p + m2 - 1 := by rw [← hu]; exact Nat.div_le_self _ _
      have hu2 : upN (m3, m2) v = u := by unfold upN; simp only; rw [hp, hu]
      rw [hu] at HUP
      rw [hu2]
      have y9 : (m3 : Int) * (v : Int) = (p : Int) := by rw [← Int.natCast_mul, hp]
      have HIN := Lib.hid (fun (w' : World) (hb : Below W.heap.size W w') => in_any w' _ s v u (HROW.out w' hb) HS.out hv (by have := HMEM.out.2.1; omega))
      obtain ⟨x, hx⟩ : ∃ x, clampN (floorN s) v u = x := ⟨_, rfl⟩
      rw [hx] at HIN ⊢
      unfold refV at HIN
      clear hx hu hu2 hp hul hwr
      cases m4
      · rw [if_neg (by decide)]
        go_enter Try.func47, Try.ntmps47

        go_wp2_with fail
        clear hw2 hN

        refine HF2.out.mono ?_
        rintro e w3 ⟨rfl, hb⟩
        have HX3 := Lib.hid (HX.out.below hb)
        clear hb r0 r1 r2 o0 o1 o2 o3 o4 o5
        obtain ⟨r0, r1, r2, r3, r4, r5⟩ := three_heads HX3.out.ring
        obtain ⟨o0, o1, o2, o3, o4, o5⟩ := three_heads HX3.out.res

        obtain ⟨a0, a1, a2, a3⟩ := HGK.out w3 HX3.out.bel
        simp only at a0 a1 a2 a3
        go_upto_region 7 with fail
        obtain ⟨N3, hN3⟩ : ∃ N3, w3.heap.size = N3 := ⟨_, rfl⟩
        rw [hN3]
        obtain ⟨w4, hw4⟩ : ∃ w4, w3.alloc (.cells #[.int .i64 m1, .int .i64 m2, .int .i64 m3, .bool false] 71) = w4 := ⟨_, rfl⟩
        rw [hw4]
        have hb4 : Below w3.heap.size w3 w4 := by rw [← hw4]; exact (Below.refl _ w3).alloc (Nat.le_refl _) _
        have HN4 : Hid (w4.heap[N3]? = some (.cells #[.int .i64 m1, .int .i64 m2, .int .i64 m3, .bool false] 71 (0, 0))) := by rw [← hw4]; exact alloc_block w3 _ hN3
        have HX4 := Lib.hid (HX3.out.below hb4)
        have HN3 : Hid (N + 1 < N3) := by rw [← hN3]; exact heap_lt HX3.out.res
        clear hw4 hN3 hb4 a0 a1 a2 a3 r0 r1 r2 r3 r4 r5 o0 o1 o2 o3 o4 o5
        obtain ⟨r0, r1, r2, r3, r4, r5⟩ := three_heads HX4.out.ring
        obtain ⟨o0, o1, o2, o3, o4, o5⟩ := three_heads HX4.out.res
        obtain ⟨b0, b1, b2, b3, b4⟩ := four_rm HN4.out

        go_wp2_with fail
        refine (HUP.out _).mono ?_
        rintro e w5 ⟨rfl, rfl⟩
        have HX6 := Lib.hid (HX4.out.other (p := ⟨N3, 2, none⟩) HN3.out (.int .i64 u))
        have HN6 := Lib.hid (heap_setCell_mem w4 N3 2 _ _ _ (.int .i64 u) HN4.out)
        obtain ⟨w6, hw6⟩ : ∃ y, w4.setCell ⟨N3, 2, none⟩ (.int .i64 u) = y := ⟨_, rfl⟩
        rw [hw6] at HX6 HN6
        obtain ⟨y0, y1, y2, y3, y4⟩ := four_rm HN6.out
        have HX7 := Lib.hid (HX6.out.other (p := ⟨N3, 1, none⟩) HN3.out (.int .i64 v))
        have HN7 := Lib.hid (heap_setCell_mem w6 N3 1 _ _ _ (.int .i64 v) HN6.out)
        obtain ⟨w7, hw7⟩ : ∃ y, w6.setCell ⟨N3, 1, none⟩ (.int .i64 v) = y := ⟨_, rfl⟩
        rw [hw7] at HX7 HN7
        go_upto_region 9 with fail
        clear hw6 hw7 y0 y1 y2 y3 y4
        clear r0 r1 r2 r3 r4 r5 o0 o1 o2 o3 o4 o5 b0 b1 b2 b3 b4
        obtain ⟨r0, r1, r2, r3, r4, r5⟩ := three_heads HX7.out.ring
        obtain ⟨o0, o1, o2, o3, o4, o5⟩ := three_heads HX7.out.res
        obtain ⟨b0, b1, b2, b3, b4⟩ := four_rm HN7.out
        have HWI := Lib.hid (with_any w7 _ s ⟨m1, v, u, false⟩ (HROW.out w7 HX7.out.bel) (by have := HS.out.len; show s.l.length ≤ 100; omega))
        unfold refV rmA at HWI
        simp only at HWI
        go_wp2_with fail
        refine HWI.out.mono ?_
        rintro e w9 ⟨v9, rfl, hr9, hb9⟩
        have HX9 := Lib.hid (HX7.out.below hb9)
        obtain ⟨A9, c9, rfl, _⟩ := hr9.lies
        unfold refV
        simp only
        have HDN := Lib.hid (HX9.out.done (s' := { s with l := s.l.set k ⟨m1, v, u, false⟩ }) (v' := .slice A9 (withL s.l ⟨m1, v, u, false⟩).length c9) (by rw [HSET.out ⟨m1, v, u, false⟩ rfl] at hr9 ⊢; exact hr9) 0)
        obtain ⟨o0, o1, o2, o3, o4, o5⟩ := three_heads HX9.out.res
        clear hr9 hb9 r0 r1 r2 r3 r4 r5 b0 b1 b2 b3 b4
        generalize (withL s.l ⟨m1, v, u, false⟩).length = len9 at *
        go_wp2_with fail
        refine bodyPost_ret (v := .tuple #[.agg #[.slice A9 len9 c9, .int .i64 s.num, .int .i64 s.den], .int .i64 0]) (results_row_tmp rfl _ _ (N + 1) _ _ _ _ rfl HDN.out.1 Try.underlying30 rfl (Try.sizeRr _ _ _) _ rfl) rfl ?_
        exact HDN.out.2
      · rw [if_pos rfl]
        go_enter Try.func47, Try.ntmps47

        go_wp2_with fail
        clear hw2 hN

        refine HF2.out.mono ?_
        rintro e w3 ⟨rfl, hb⟩
        have HX3 := Lib.hid (HX.out.below hb)
        clear hb r0 r1 r2 o0 o1 o2 o3 o4 o5
        obtain ⟨r0, r1, r2, r3, r4, r5⟩ := three_heads HX3.out.ring
        obtain ⟨o0, o1, o2, o3, o4, o5⟩ := three_heads HX3.out.res

        obtain ⟨a0, a1, a2, a3⟩ := HGK.out w3 HX3.out.bel
        simp only at a0 a1 a2 a3
        go_upto_region 7 with fail
        obtain ⟨N3, hN3⟩ : ∃ N3, w3.heap.size = N3 := ⟨_, rfl⟩
        rw [hN3]
        obtain ⟨w4, hw4⟩ : ∃ w4, w3.alloc (.cells #[.int .i64 m1, .int .i64 m2, .int .i64 m3, .bool true] 71) = w4 := ⟨_, rfl⟩
        rw [hw4]
        have hb4 : Below w3.heap.size w3 w4 := by rw [← hw4]; exact (Below.refl _ w3).alloc (Nat.le_refl _) _
        have HN4 : Hid (w4.heap[N3]? = some (.cells #[.int .i64 m1, .int .i64 m2, .int .i64 m3, .bool true] 71 (0, 0))) := by rw [← hw4]; exact alloc_block w3 _ hN3
        have HX4 := Lib.hid (HX3.out.below hb4)
        have HN3 : Hid (N + 1 < N3) := by rw [← hN3]; exact heap_lt HX3.out.res
        clear hw4 hN3 hb4 a0 a1 a2 a3 r0 r1 r2 r3 r4 r5 o0 o1 o2 o3 o4 o5
        obtain ⟨r0, r1, r2, r3, r4, r5⟩ := three_heads HX4.out.ring
        obtain ⟨o0, o1, o2, o3, o4, o5⟩ := three_heads HX4.out.res
        obtain ⟨b0, b1, b2, b3, b4⟩ := four_rm HN4.out

        go_wp2_with fail
        refine (HUP.out _).mono ?_
        rintro e w5 ⟨rfl, rfl⟩
        have HX6 := Lib.hid (HX4.out.other (p := ⟨N3, 2, none⟩) HN3.out (.int .i64 u))
        have HN6 := Lib.hid (heap_setCell_mem w4 N3 2 _ _ _ (.int .i64 u) HN4.out)
        obtain ⟨w6, hw6⟩ : ∃ y, w4.setCell ⟨N3, 2, none⟩ (.int .i64 u) = y := ⟨_, rfl⟩
        rw [hw6] at HX6 HN6
        obtain ⟨y0, y1, y2, y3, y4⟩ := four_rm HN6.out
        have HX7 := Lib.hid (HX6.out.other (p := ⟨N3, 1, none⟩) HN3.out (.int .i64 v))
        have HN7 := Lib.hid (heap_setCell_mem w6 N3 1 _ _ _ (.int .i64 v) HN6.out)
        obtain ⟨w7, hw7⟩ : ∃ y, w6.setCell ⟨N3, 1, none⟩ (.int .i64 v) = y := ⟨_, rfl⟩
        rw [hw7] at HX7 HN7
        go_upto_region 9 with fail
        clear hw6 hw7 y0 y1 y2 y3 y4
        clear r0 r1 r2 r3 r4 r5 o0 o1 o2 o3 o4 o5 b0 b1 b2 b3 b4
        obtain ⟨r0, r1, r2, r3, r4, r5⟩ := three_heads HX7.out.ring
        obtain ⟨o0, o1, o2, o3, o4, o5⟩ := three_heads HX7.out.res
        obtain ⟨b0, b1, b2, b3, b4⟩ := four_rm HN7.out
        go_wp2_with fail
        refine (HIN.out _ HX7.out.bel).mono ?_
        rintro e w8 ⟨rfl, hb⟩
        have HX8 := Lib.hid (HX7.out.below hb)
        have HN8 := Lib.hid (keep_block HN7.out hb)
        clear hb
        clear r0 r1 r2 r3 r4 r5 o0 o1 o2 o3 o4 o5 b0 b1 b2 b3 b4
        obtain ⟨r0, r1, r2, r3, r4, r5⟩ := three_heads HX8.out.ring
        obtain ⟨o0, o1, o2, o3, o4, o5⟩ := three_heads HX8.out.res
        obtain ⟨b0, b1, b2, b3, b4⟩ := four_rm HN8.out
        have HXA := Lib.hid (HX8.out.other (p := ⟨N3, 2, none⟩) HN3.out (.int .i64 x))
        have HNA := Lib.hid (heap_setCell_mem w8 N3 2 _ _ _ (.int .i64 x) HN8.out)
        obtain ⟨wA, hwA⟩ : ∃ y, w8.setCell ⟨N3, 2, none⟩ (.int .i64 x) = y := ⟨_, rfl⟩
        rw [hwA] at HXA HNA
        go_upto_region 11 with fail
        clear hwA
        clear r0 r1 r2 r3 r4 r5 o0 o1 o2 o3 o4 o5 b0 b1 b2 b3 b4
        obtain ⟨r0, r1, r2, r3, r4, r5⟩ := three_heads HXA.out.ring
        obtain ⟨o0, o1, o2, o3, o4, o5⟩ := three_heads HXA.out.res
        obtain ⟨b0, b1, b2, b3, b4⟩ := four_rm HNA.out
        have HWI := Lib.hid (with_any wA _ s ⟨m1, v, x, true⟩ (HROW.out wA HXA.out.bel) (by have := HS.out.len; show s.l.length ≤ 100; omega))
        unfold refV rmA at HWI
        simp only at HWI
        go_wp2_with fail
        refine HWI.out.mono ?_
        rintro e w9 ⟨v9, rfl, hr9, hb9⟩
        have HX9 := Lib.hid (HXA.out.below hb9)
        obtain ⟨A9, c9, rfl, _⟩ := hr9.lies
        unfold refV
        simp only
        have HDN := Lib.hid (HX9.out.done (s' := { s with l := s.l.set k ⟨m1, v, x, true⟩ }) (v' := .slice A9 (withL s.l ⟨m1, v, x, true⟩).length c9) (by rw [HSET.out ⟨m1, v, x, true⟩ rfl] at hr9 ⊢; exact hr9) 0)
        obtain ⟨o0, o1, o2, o3, o4, o5⟩ := three_heads HX9.out.res
        clear hr9 hb9 r0 r1 r2 r3 r4 r5 b0 b1 b2 b3 b4
        generalize (withL s.l ⟨m1, v, x, true⟩).length = len9 at *
        go_wp2_with fail
        refine bodyPost_ret (v := .tuple #[.agg #[.slice A9 len9 c9, .int .i64 s.num, .int .i64 s.den], .int .i64 0]) (results_row_tmp rfl _ _ (N + 1) _ _ _ _ rfl HDN.out.1 Try.underlying30 rfl (Try.sizeRr _ _ _) _ rfl) rfl ?_
        exact HDN.out.2
end Go.Proofs.Ytanchjcifhbllaa
