/-
  The document's Join.
  Conditions: the numbers are small.
-/
import Derived.Test.YtanchjcifhbllaaRefBox
set_option linter.unusedVariables false
set_option linter.unusedSimpArgs false
namespace Go.Proofs.Ytanchjcifhbllaa
open Go.RowKit

set_option maxRecDepth 100000 in
set_option maxHeartbeats 4000000 in
theorem refJoin_any (W : World) (v : Value) (s : Rg) (id w : Int) (h : RowR W v s.l) (hs : Small s) (hsrt : Sorted s.l) : Calls Try.prog 43 #[refV v s, .int .i64 id, .int .i64 w] W (RefPostE W (joinA s id w).2 (joinA s id w).1) := by
  have hlen := hs.len
  obtain ⟨A, c, rfl, hat⟩ := h.lies
  obtain ⟨n, hn⟩ : ∃ n, s.l.length = n := ⟨_, rfl⟩
  have HN := Lib.hid hn
  have HS := Lib.hid hs
  have HAT := Lib.hid hat
  have HROW := Lib.hid (fun (w' : World) (hb : Below W.heap.size W w') => h.below hb)
  rw [hn] at hlen h HROW ⊢
  obtain ⟨N, hN⟩ : ∃ N, W.heap.size = N := ⟨_, rfl⟩
  obtain ⟨w2, hw2⟩ : ∃ w2, (W.alloc (.cells #[.slice A n c, .int .i64 s.num, .int .i64 s.den] 30)).alloc (.cells #[.slice none 0 0, .int .i64 0, .int .i64 0] 30) = w2 := ⟨_, rfl⟩
  have HX : Hid (Box W w2 N (.slice A n c) s.num s.den) := by rw [← hw2, ← hN]; exact box_new W _ _ _
  obtain ⟨r0, r1, r2, _⟩ := three_heads HX.out.ring
  obtain ⟨o0, o1, o2, o3, o4, o5⟩ := three_heads HX.out.res
  have HF2 := Lib.hid (refFind_any w2 _ s id (HROW.out w2 HX.out.bel) (by have := HS.out.len; omega))
  unfold refV at *
  clear h hs hat hn
  by_cases h1 : id < 1 ∨ 200 < id
  · have HJ : Hid (joinA s id w = (20, s)) := by unfold joinA; rw [if_pos h1]; exact rfl
    rw [HJ.out]
    by_cases h2 : id < 1
    · have q1 : decide (id < 1) = true := decide_eq_true h2
      clear h1
      go_enter Try.func43, Try.ntmps43
      have HDN := Lib.hid (HX.out.done (s' := s) (HROW.out _ HX.out.bel) (20))
      go_wp2_with fail
      refine bodyPost_ret (v := .tuple #[.agg #[.slice A n c, .int .i64 s.num, .int .i64 s.den], .int .i64 (20)]) (results_row_tmp rfl _ _ (N + 1) _ _ _ _ rfl HDN.out.1 Try.underlying30 rfl (Try.sizeRr _ _ _) _ rfl) rfl ?_
      exact HDN.out.2

    · have q1 : decide (id < 1) = false := decide_eq_false h2
      have q2 : decide (200 < id) = true := decide_eq_true (by omega)
      clear h1
      go_enter Try.func43, Try.ntmps43
      have HDN := Lib.hid (HX.out.done (s' := s) (HROW.out _ HX.out.bel) (20))
      go_wp2_with fail
      refine bodyPost_ret (v := .tuple #[.agg #[.slice A n c, .int .i64 s.num, .int .i64 s.den], .int .i64 (20)]) (results_row_tmp rfl _ _ (N + 1) _ _ _ _ rfl HDN.out.1 Try.underlying30 rfl (Try.sizeRr _ _ _) _ rfl) rfl ?_
      exact HDN.out.2

  · have q1 : decide (id < 1) = false := decide_eq_false (by omega)
    have q2 : decide (200 < id) = false := decide_eq_false (by omega)
    by_cases h2 : w < 1 ∨ 1000 < w
    · have HJ : Hid (joinA s id w = (22, s)) := by unfold joinA; rw [if_neg h1, if_pos h2]; exact rfl
      rw [HJ.out]
      by_cases h3 : w < 1
      · have q3 : decide (w < 1) = true := decide_eq_true h3
        clear h1 h2
        go_enter Try.func43, Try.ntmps43
        have HDN := Lib.hid (HX.out.done (s' := s) (HROW.out _ HX.out.bel) (22))
        go_wp2_with fail
        refine bodyPost_ret (v := .tuple #[.agg #[.slice A n c, .int .i64 s.num, .int .i64 s.den], .int .i64 (22)]) (results_row_tmp rfl _ _ (N + 1) _ _ _ _ rfl HDN.out.1 Try.underlying30 rfl (Try.sizeRr _ _ _) _ rfl) rfl ?_
        exact HDN.out.2

      · have q3 : decide (w < 1) = false := decide_eq_false h3
        have q4 : decide (1000 < w) = true := decide_eq_true (by omega)
        clear h1 h2
        go_enter Try.func43, Try.ntmps43
        have HDN := Lib.hid (HX.out.done (s' := s) (HROW.out _ HX.out.bel) (22))
        go_wp2_with fail
        refine bodyPost_ret (v := .tuple #[.agg #[.slice A n c, .int .i64 s.num, .int .i64 s.den], .int .i64 (22)]) (results_row_tmp rfl _ _ (N + 1) _ _ _ _ rfl HDN.out.1 Try.underlying30 rfl (Try.sizeRr _ _ _) _ rfl) rfl ?_
        exact HDN.out.2

    · have q3 : decide (w < 1) = false := decide_eq_false (by omega)
      have q4 : decide (1000 < w) = false := decide_eq_false (by omega)
      cases hq : findK s.l id with
      | some k =>
        have HJ : Hid (joinA s id w = (11, s)) := by unfold joinA; rw [if_neg h1, if_neg h2, hq]; exact rfl
        rw [HJ.out]
        rw [hq] at HF2
        have e : idxO (some k) = (k : Int) := rfl
        rw [e] at HF2
        have hk0 : (0 : Int) ≤ (k : Int) := by omega
        clear h1 h2 hq e
        go_enter Try.func43, Try.ntmps43
        go_wp2_with fail
        clear hw2 hN
        refine HF2.out.mono ?_
        rintro e w3 ⟨rfl, hb⟩
        have HX3 := Lib.hid (HX.out.below hb)
        clear hb r0 r1 r2 o0 o1 o2 o3 o4 o5
        obtain ⟨r0, r1, r2, r3, r4, r5⟩ := three_heads HX3.out.ring
        obtain ⟨o0, o1, o2, o3, o4, o5⟩ := three_heads HX3.out.res
        have HDN := Lib.hid (HX3.out.done (s' := s) (HROW.out _ HX3.out.bel) (11))
        go_wp2_with fail
        refine bodyPost_ret (v := .tuple #[.agg #[.slice A n c, .int .i64 s.num, .int .i64 s.den], .int .i64 (11)]) (results_row_tmp rfl _ _ (N + 1) _ _ _ _ rfl HDN.out.1 Try.underlying30 rfl (Try.sizeRr _ _ _) _ rfl) rfl ?_
        exact HDN.out.2

      | none =>
        rw [hq] at HF2
        have e : idxO none = -1 := rfl
        rw [e] at HF2
        by_cases hfull : 32 ≤ n
        · have HJ : Hid (joinA s id w = (13, s)) := by unfold joinA; rw [if_neg h1, if_neg h2, hq]; simp only; rw [if_pos (by have := HN.out; omega)]; exact rfl
          rw [HJ.out]
          have q5 : (32 : Int) ≤ (n : Int) := by omega
          clear h1 h2 hq e
          go_enter Try.func43, Try.ntmps43
          go_wp2_with fail
          clear hw2 hN
          refine HF2.out.mono ?_
          rintro e w3 ⟨rfl, hb⟩
          have HX3 := Lib.hid (HX.out.below hb)
          clear hb r0 r1 r2 o0 o1 o2 o3 o4 o5
          obtain ⟨r0, r1, r2, r3, r4, r5⟩ := three_heads HX3.out.ring
          obtain ⟨o0, o1, o2, o3, o4, o5⟩ := three_heads HX3.out.res
          have HDN := Lib.hid (HX3.out.done (s' := s) (HROW.out _ HX3.out.bel) (13))
          go_wp2_with fail
          refine bodyPost_ret (v := .tuple #[.agg #[.slice A n c, .int .i64 s.num, .int .i64 s.den], .int .i64 (13)]) (results_row_tmp rfl _ _ (N + 1) _ _ _ _ rfl HDN.out.1 Try.underlying30 rfl (Try.sizeRr _ _ _) _ rfl) rfl ?_
          exact HDN.out.2

        · obtain ⟨i, rfl⟩ : ∃ i : Nat, id = i := ⟨id.toNat, by omega⟩
          obtain ⟨vv, rfl⟩ : ∃ vv : Nat, w = vv := ⟨w.toNat, by omega⟩
          have hne := findK_none hq
          have HJ : Hid (joinA s i vv = (0, joinR s i vv)) := by unfold joinA; rw [if_neg h1, if_neg h2, hq]; simp only; rw [if_neg (by have := HN.out; omega)]; exact rfl
          rw [HJ.out]
          have q5 : ¬ (32 : Int) ≤ (n : Int) := by omega
          obtain ⟨f1, f2, f3⟩ := HS.out.floor
          obtain ⟨a, ha⟩ : ∃ a, (floorN s).1 = a := ⟨_, rfl⟩
          obtain ⟨d, hd⟩ : ∃ d, (floorN s).2 = d := ⟨_, rfl⟩
          rw [hd] at f1 f2
          rw [ha] at f3
          obtain ⟨p, hp⟩ : ∃ p, a * vv = p := ⟨_, rfl⟩
          have hpl : p ≤ 10000000 * 1000 := by rw [← hp]; exact Nat.mul_le_mul f3 (by omega)
          obtain ⟨u, hu⟩ : ∃ u, (p + d - 1) / d = u := ⟨_, rfl⟩
          have HUP := Lib.hid (fun W => up_any p d (by omega) f1 (by omega) W)
          rw [hu] at HUP
          have y1 : (a : Int) * (vv : Int) = (p : Int) := by rw [← Int.natCast_mul, hp]
          have y2 : IntKind.i64.wrap (p : Int) = (p : Int) := by rw [IntKind.wrap_i64]; omega
          have HU : Hid (upN (floorN s) vv = u) := by
            show (_ * _ + _ - 1) / _ = u
            rw [ha, hd, hp, hu]
          have HSRT2 := Lib.hid (withL_ins s.l ⟨i, vv, u, true⟩ hsrt (fun x hx e => hne x hx (by rw [e])))
          have HFL := Lib.hid (fun (w' : World) (hb : Below W.heap.size W w') => refFloor_any w' _ s (HROW.out w' hb) HS.out)
          rw [ha, hd] at HFL
          have HWI := Lib.hid (fun (w' : World) (hb : Below W.heap.size W w') => with_any w' _ s ⟨i, vv, u, true⟩ (HROW.out w' hb) (by have := HS.out.len; omega))
          unfold refV at HFL HWI
          unfold rmA at HWI
          simp only at HWI
          clear h1 h2 hq e ha hd hp hu hne hsrt hfull
          go_enter Try.func43, Try.ntmps43
          go_wp2_with fail
          clear hw2 hN
          refine HF2.out.mono ?_
          rintro e w3 ⟨rfl, hb⟩
          have HX3 := Lib.hid (HX.out.below hb)
          clear hb r0 r1 r2 o0 o1 o2 o3 o4 o5
          obtain ⟨r0, r1, r2, r3, r4, r5⟩ := three_heads HX3.out.ring
          obtain ⟨o0, o1, o2, o3, o4, o5⟩ := three_heads HX3.out.res

          go_wp2_with fail
          refine (HFL.out _ HX3.out.bel).mono ?_
          rintro e w4 ⟨rfl, hb⟩
          have HX4 := Lib.hid (HX3.out.below hb)
          clear hb r0 r1 r2 r3 r4 r5 o0 o1 o2 o3 o4 o5
          have HBX : Hid (∀ w', Apart (fun k => k = N + 1) w4 w' → w'.cell? ⟨N, 0, none⟩ = some (.slice A n c) ∧ w'.cell? ⟨N, 1, none⟩ = some (.int .i64 s.num) ∧ w'.cell? ⟨N, 2, none⟩ = some (.int .i64 s.den)) := fun w' ha => by
            obtain ⟨a0, a1, a2, _⟩ := three_heads ((ha.block N (heap_lt HX4.out.ring) (by omega)).trans HX4.out.ring)
            exact ⟨a0, a1, a2⟩
          have HDR : Hid (Apart (fun k => k = N + 1) w4 w4.drew) := (Apart.refl _ w4).drew1
          go_wp2_with fail
          refine wp_region_N (S1 := fun w' => Apart (fun k => k = N + 1) w4 w') (S2 := fun W => True) (N := fun i => i != 99) (by kernel_rfl) ?_
          change wpAnyN _ _ _ _ _ _ _ 12 (Array.replicate 12 false) _ _
          refine wpAnyN_take false (i := 0) (v := .agg #[.slice A n c, .int .i64 s.num, .int .i64 s.den]) rfl (by kernel_rfl) (by kernel_rfl) (by kernel_rfl) (fun _ _ _ h => h) (.inl ⟨by kernel_rfl, fun W_ hS => ?_⟩) ⟨HDR.out, fun h => by cases h⟩ ?_
          · simp [execOp, Act.eval, go_sem, (HBX.out W_ hS.1).1, (HBX.out W_ hS.1).2.1, (HBX.out W_ hS.1).2.2]
          refine wpAnyN_take false (i := 1) (v := .int .i64 i) rfl (by kernel_rfl) (by kernel_rfl) (by kernel_rfl) (fun _ _ _ h => h) (.inl ⟨by kernel_rfl, fun W_ hS => ?_⟩) ⟨HDR.out, fun h => by cases h⟩ ?_
          · simp [execOp, Act.eval, Act.put, go_sem]
          refine wpAnyN_take false (i := 2) (v := .int .i64 vv) rfl (by kernel_rfl) (by kernel_rfl) (by kernel_rfl) (fun _ _ _ h => h) (.inl ⟨by kernel_rfl, fun W_ hS => ?_⟩) ⟨HDR.out, fun h => by cases h⟩ ?_
          · simp [execOp, Act.eval, Act.put, go_sem]
          simp only [Act.put]
          go_simp
          refine wpAnyN_take false (i := 3) (v := .int .i64 a) rfl (by kernel_rfl) (by kernel_rfl) (by kernel_rfl) (fun _ _ _ h => h) (.inl ⟨by kernel_rfl, fun W_ hS => ?_⟩) ⟨HDR.out, fun h => by cases h⟩ ?_
          · simp [execOp, Act.eval, go_sem]
          refine wpAnyN_take false (i := 4) (v := .int .i64 vv) rfl (by kernel_rfl) (by kernel_rfl) (by kernel_rfl) (fun _ _ _ h => h) (.inl ⟨by kernel_rfl, fun W_ hS => ?_⟩) ⟨HDR.out, fun h => by cases h⟩ ?_
          · simp [execOp, Act.eval, Act.put, go_sem]
          refine wpAnyN_take false (i := 5) (v := .int .i64 p) rfl (by kernel_rfl) (by kernel_rfl) (by kernel_rfl) (fun _ _ _ h => h) (.inl ⟨by kernel_rfl, fun W_ hS => ?_⟩) ⟨HDR.out, fun h => by cases h⟩ ?_
          · simp [execOp, Act.eval, Act.put, go_sem, y1, y2]
          refine wpAnyN_take false (i := 6) (v := .int .i64 d) rfl (by kernel_rfl) (by kernel_rfl) (by kernel_rfl) (fun _ _ _ h => h) (.inl ⟨by kernel_rfl, fun W_ hS => ?_⟩) ⟨HDR.out, fun h => by cases h⟩ ?_
          · simp [execOp, Act.eval, Act.put, go_sem]
          simp only [Act.put]
          go_simp
          refine wpAnyN_step (i := 7) (by kernel_rfl) rfl (by kernel_rfl) ?_
          intro K' hK
          try simp only [Act.put]
          go_simp
          refine (HUP.out _).mono ?_
          rintro e w5 ⟨rfl, rfl⟩
          refine hK.out _ _ (HDR.out) (fun _ _ => trivial) ?_
          refine wpAnyN_take false (i := 8) (v := .agg #[.int .i64 i, .int .i64 vv, .int .i64 u, .bool true]) rfl (by kernel_rfl) (by kernel_rfl) (by kernel_rfl) (fun _ _ _ h => h) (.inl ⟨by kernel_rfl, fun W_ hS => ?_⟩) ⟨HDR.out, fun h => by cases h⟩ ?_
          · simp [execOp, Act.eval, go_sem]
          simp only [Act.put]
          go_simp
          refine wpAnyN_step (i := 9) (by kernel_rfl) rfl (by kernel_rfl) ?_
          intro K' hK
          try simp only [Act.put]
          go_simp
          refine (HWI.out _ (below_drewN HX4.out.bel 1)).mono ?_
          rintro e w6 ⟨v6, rfl, hr6, hb6⟩
          have HB6 := Lib.hid ((show Below w4.heap.size w4 w4.drew from below_drewN (Below.refl _ _) 1).trans hb6)
          have HX6 := Lib.hid (HX4.out.below HB6.out)
          obtain ⟨A6, c6, rfl, _⟩ := hr6.lies
          unfold refV
          have HDN := Lib.hid (HX6.out.done (s' := joinR s i vv) (v' := .slice A6 (withL s.l ⟨i, vv, u, true⟩).length c6) (by unfold joinR; rw [HU.out, ← HSRT2.out]; exact hr6) 0)
          obtain ⟨o0, o1, o2, o3, o4, o5⟩ := three_heads HX6.out.res
          clear hr6 hb6
          generalize (withL s.l ⟨i, vv, u, true⟩).length = len6 at *
          refine hK.out _ _ (Apart.of_below (F := (fun k => k = N + 1)) HB6.out) (fun _ _ => trivial) ?_
          refine wpAnyN_step (i := 10) (by kernel_rfl) rfl (by kernel_rfl) ?_
          intro K' hK
          try simp only [Act.put]
          go_simp
          refine hK.out _ _ ((((Apart.of_below (F := (fun k => k = N + 1)) HB6.out).set (p := ⟨N + 1, 0, none⟩) (.inl rfl) _).set (p := ⟨N + 1, 1, none⟩) (.inl rfl) _).set (p := ⟨N + 1, 2, none⟩) (.inl rfl) _) (fun _ _ => trivial) ?_
          refine wpAnyN_take false (i := 11) (v := .int .i64 0) rfl (by kernel_rfl) (by kernel_rfl) (by kernel_rfl) (fun _ _ _ h => h) (.inl ⟨by kernel_rfl, fun W_ hS => ?_⟩) ⟨(((Apart.of_below (F := (fun k => k = N + 1)) HB6.out).set (p := ⟨N + 1, 0, none⟩) (.inl rfl) _).set (p := ⟨N + 1, 1, none⟩) (.inl rfl) _).set (p := ⟨N + 1, 2, none⟩) (.inl rfl) _, fun h => by cases h⟩ ?_
          · simp [execOp, Act.eval, go_sem]
          refine wpAnyN_done (by kernel_rfl) ?_
          try simp only [Act.put]
          try go_simp
          go_wp2
          refine bodyPost_ret (v := .tuple #[.agg #[.slice A6 len6 c6, .int .i64 s.num, .int .i64 s.den], .int .i64 0]) (results_row_tmp rfl _ _ (N + 1) _ _ _ _ rfl HDN.out.1 Try.underlying30 rfl (Try.sizeRr _ _ _) _ rfl) rfl ?_
          exact HDN.out.2
end Go.Proofs.Ytanchjcifhbllaa
