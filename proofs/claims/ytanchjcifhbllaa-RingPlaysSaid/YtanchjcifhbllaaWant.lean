/-
  Which of the document's calls an act is.
  Conditions: the numbers are small.
-/
import Derived.Test.YtanchjcifhbllaaRefLeave
import Derived.Test.YtanchjcifhbllaaRefJoin
import Derived.Test.YtanchjcifhbllaaRefWake
import Derived.Test.YtanchjcifhbllaaRefWeigh
set_option linter.unusedVariables false
set_option linter.unusedSimpArgs false
namespace Go.Proofs.Ytanchjcifhbllaa
open Go.RowKit

/-- A call's ring, its act and its answer's block. -/
structure Box3 (W w : World) (N : Nat) (v : Value) (a b : Nat) (x0 x1 x2 x3 : Value) : Prop where
  ring : w.heap[N]? = some (.cells #[v, .int .i64 a, .int .i64 b] 30 (0, 0))
  act : w.heap[N + 1]? = some (.cells #[x0, x1, x2, x3] 35 (0, 0))
  res : w.heap[N + 2]? = some (.cells #[.slice none 0 0, .int .i64 0, .int .i64 0] 30 (0, 0))
  bel : Below W.heap.size W w
  n : W.heap.size = N
theorem box3_new (W : World) (v : Value) (a b : Nat) (x0 x1 x2 x3 : Value) : Box3 W (((W.alloc (.cells #[v, .int .i64 a, .int .i64 b] 30)).alloc (.cells #[x0, x1, x2, x3] 35)).alloc (.cells #[.slice none 0 0, .int .i64 0, .int .i64 0] 30)) W.heap.size v a b x0 x1 x2 x3 := by
  have h1 := (Below.refl W.heap.size W).alloc (Nat.le_refl _) (.cells #[v, .int .i64 a, .int .i64 b] 30)
  obtain ⟨w1, hw1⟩ : ∃ w1, W.alloc (.cells #[v, .int .i64 a, .int .i64 b] 30) = w1 := ⟨_, rfl⟩
  have e1 : w1.heap[W.heap.size]? = some (.cells #[v, .int .i64 a, .int .i64 b] 30 (0, 0)) := by rw [← hw1]; exact alloc_block W _ rfl
  have s1 : w1.heap.size = W.heap.size + 1 := by rw [← hw1]; simp
  rw [hw1] at h1 ⊢
  have h2 := (Below.refl w1.heap.size w1).alloc (Nat.le_refl _) (.cells #[x0, x1, x2, x3] 35)
  obtain ⟨w2, hw2⟩ : ∃ w2, w1.alloc (.cells #[x0, x1, x2, x3] 35) = w2 := ⟨_, rfl⟩
  have e2 : w2.heap[W.heap.size + 1]? = some (.cells #[x0, x1, x2, x3] 35 (0, 0)) := by rw [← hw2]; exact alloc_block w1 _ s1
  have s2 : w2.heap.size = W.heap.size + 2 := by rw [← hw2]; simp [s1]
  rw [hw2] at h2 ⊢
  have h3 := (Below.refl w2.heap.size w2).alloc (Nat.le_refl _) (.cells #[.slice none 0 0, .int .i64 0, .int .i64 0] 30)
  exact ⟨keep_block e1 (h2.trans (h3.mono h2.size)), keep_block e2 h3, alloc_block w2 _ s2, h1.trans ((h2.trans (h3.mono h2.size)).mono h1.size), rfl⟩
theorem Box3.below {W w w' : World} {N : Nat} {v : Value} {a b : Nat} {x0 x1 x2 x3 : Value} (h : Box3 W w N v a b x0 x1 x2 x3) (hb : Below w.heap.size w w') : Box3 W w' N v a b x0 x1 x2 x3 :=
  ⟨keep_block h.ring hb, keep_block h.act hb, keep_block h.res hb, h.bel.trans (hb.mono h.bel.size), h.n⟩
theorem Box3.done {W w : World} {N : Nat} {v v' : Value} {a b : Nat} {x0 x1 x2 x3 : Value} {s' : Rg} (h : Box3 W w N v a b x0 x1 x2 x3) (hr : RowR w v' s'.l) (err : Int) :
    (((w.setCell ⟨N + 2, 0, none⟩ v').setCell ⟨N + 2, 1, none⟩ (.int .i64 s'.num)).setCell ⟨N + 2, 2, none⟩ (.int .i64 s'.den)).heap[N + 2]? = some (.cells #[v', .int .i64 s'.num, .int .i64 s'.den] 30 (0, 0)) ∧
    RefPostE W s' err (.returned (.tuple #[refV v' s', .int .i64 err])) (((w.setCell ⟨N + 2, 0, none⟩ v').setCell ⟨N + 2, 1, none⟩ (.int .i64 s'.num)).setCell ⟨N + 2, 2, none⟩ (.int .i64 s'.den)) := by
  have hn := h.n
  refine ⟨heap_setCell_mem _ _ _ _ _ _ _ (heap_setCell_mem _ _ _ _ _ _ _ (heap_setCell_mem _ _ _ _ _ _ _ h.res)), v', rfl, own_keep hr fun k hk => ?_, ?_⟩
  · have hne : k ≠ N + 2 := fun e => row_ne hr h.res (by rw [← e]; exact hk)
    exact (Below.heap_setCell _ _ _ _ hne).trans ((Below.heap_setCell _ _ _ _ hne).trans (Below.heap_setCell _ _ _ _ hne))
  · exact ((h.bel.setCell (p := ⟨N + 2, 0, none⟩) (by show _ ≤ N + 2; omega) _).setCell (p := ⟨N + 2, 1, none⟩) (by show _ ≤ N + 2; omega) _).setCell (p := ⟨N + 2, 2, none⟩) (by show _ ≤ N + 2; omega) _

set_option maxRecDepth 100000 in
set_option maxHeartbeats 4000000 in
theorem want_any (W : World) (v : Value) (s : Rg) (kind id w : Int) (nu : Nat) (h : RowR W v s.l) (hs : Small s) (hsrt : Sorted s.l) : Calls Try.prog 26 #[refV v s, .agg #[.int .i64 kind, .int .i64 id, .int .i64 w, .int .u8 nu]] W (RefPostE W (callA s kind id w).2 (callA s kind id w).1) := by
  have HROW := Lib.hid (fun (w' : World) (hb : Below W.heap.size W w') => h.below hb)
  obtain ⟨A, c, rfl, hat⟩ := h.lies
  obtain ⟨n, hn⟩ : ∃ n, s.l.length = n := ⟨_, rfl⟩
  have HS := Lib.hid hs
  have HSRT := Lib.hid hsrt
  rw [hn] at HROW ⊢
  obtain ⟨N, hN⟩ : ∃ N, W.heap.size = N := ⟨_, rfl⟩
  obtain ⟨w3, hw3⟩ : ∃ w3, ((W.alloc (.cells #[.slice A n c, .int .i64 s.num, .int .i64 s.den] 30)).alloc (.cells #[.int .i64 kind, .int .i64 id, .int .i64 w, .int .u8 nu] 35)).alloc (.cells #[.slice none 0 0, .int .i64 0, .int .i64 0] 30) = w3 := ⟨_, rfl⟩
  have HX : Hid (Box3 W w3 N (.slice A n c) s.num s.den (.int .i64 kind) (.int .i64 id) (.int .i64 w) (.int .u8 nu)) := by rw [← hw3, ← hN]; exact box3_new W _ _ _ _ _ _ _
  obtain ⟨r0, r1, r2, _⟩ := three_heads HX.out.ring
  obtain ⟨a0, a1, a2, a3, _⟩ := four_rm HX.out.act
  have H0 := Lib.hid (refJoin_any w3 _ s id w (HROW.out w3 HX.out.bel) HS.out HSRT.out)
  have H1 := Lib.hid (refLeave_any w3 _ s id (HROW.out w3 HX.out.bel) HS.out HSRT.out)
  have H2 := Lib.hid (refBlock_any w3 _ s id (HROW.out w3 HX.out.bel) HS.out HSRT.out)
  have H3 := Lib.hid (refWake_any w3 _ s id (HROW.out w3 HX.out.bel) HS.out HSRT.out)
  have H4 := Lib.hid (refWeigh_any w3 _ s id w (HROW.out w3 HX.out.bel) HS.out HSRT.out)
  have HR3 := Lib.hid (HROW.out w3 HX.out.bel)
  unfold refV at *
  unfold callA
  clear h hs hsrt hat hn
  by_cases h0 : kind = 0
  · subst h0
    rw [if_pos rfl]
    clear H1 H2 H3 H4 HR3
    generalize (joinA s id w).1 = er at *
    generalize (joinA s id w).2 = s2 at *
    go_enter Try.func26, Try.ntmps26
    go_wp2_with fail
    clear hw3 hN
    refine H0.out.mono ?_
    rintro e w4 ⟨v4, rfl, hr4, hb4⟩
    have HX4 := Lib.hid (HX.out.below hb4)
    clear r0 r1 r2 a0 a1 a2 a3 hb4
    obtain ⟨A4, c4, rfl, _⟩ := hr4.lies
    unfold refV
    have HDN := Lib.hid (HX4.out.done (s' := s2) hr4 er)
    obtain ⟨o0, o1, o2, o3, o4, o5⟩ := three_heads HX4.out.res
    clear hr4
    generalize s2.l.length = len4 at *
    go_wp2_with fail
    refine bodyPost_ret (v := .tuple #[.agg #[.slice A4 len4 c4, .int .i64 s2.num, .int .i64 s2.den], .int .i64 er]) (results_row_tmp rfl _ _ (N + 2) _ _ _ _ rfl HDN.out.1 Try.underlying30 rfl (Try.sizeRr _ _ _) _ rfl) rfl ?_
    exact HDN.out.2
  rw [if_neg h0]
  by_cases h1 : kind = 1
  · subst h1
    rw [if_pos rfl]
    clear H0 H2 H3 H4 h0 HR3
    generalize (leaveA s id).1 = er at *
    generalize (leaveA s id).2 = s2 at *
    go_enter Try.func26, Try.ntmps26
    go_wp2_with fail
    clear hw3 hN
    refine H1.out.mono ?_
    rintro e w4 ⟨v4, rfl, hr4, hb4⟩
    have HX4 := Lib.hid (HX.out.below hb4)
    clear r0 r1 r2 a0 a1 a2 a3 hb4
    obtain ⟨A4, c4, rfl, _⟩ := hr4.lies
    unfold refV
    have HDN := Lib.hid (HX4.out.done (s' := s2) hr4 er)
    obtain ⟨o0, o1, o2, o3, o4, o5⟩ := three_heads HX4.out.res
    clear hr4
    generalize s2.l.length = len4 at *
    go_wp2_with fail
    refine bodyPost_ret (v := .tuple #[.agg #[.slice A4 len4 c4, .int .i64 s2.num, .int .i64 s2.den], .int .i64 er]) (results_row_tmp rfl _ _ (N + 2) _ _ _ _ rfl HDN.out.1 Try.underlying30 rfl (Try.sizeRr _ _ _) _ rfl) rfl ?_
    exact HDN.out.2
  rw [if_neg h1]
  by_cases h2 : kind = 2
  · subst h2
    rw [if_pos rfl]
    clear H0 H1 H3 H4 h0 h1 HR3
    generalize (blockA s id).1 = er at *
    generalize (blockA s id).2 = s2 at *
    go_enter Try.func26, Try.ntmps26
    go_wp2_with fail
    clear hw3 hN
    refine H2.out.mono ?_
    rintro e w4 ⟨v4, rfl, hr4, hb4⟩
    have HX4 := Lib.hid (HX.out.below hb4)
    clear r0 r1 r2 a0 a1 a2 a3 hb4
    obtain ⟨A4, c4, rfl, _⟩ := hr4.lies
    unfold refV
    have HDN := Lib.hid (HX4.out.done (s' := s2) hr4 er)
    obtain ⟨o0, o1, o2, o3, o4, o5⟩ := three_heads HX4.out.res
    clear hr4
    generalize s2.l.length = len4 at *
    go_wp2_with fail
    refine bodyPost_ret (v := .tuple #[.agg #[.slice A4 len4 c4, .int .i64 s2.num, .int .i64 s2.den], .int .i64 er]) (results_row_tmp rfl _ _ (N + 2) _ _ _ _ rfl HDN.out.1 Try.underlying30 rfl (Try.sizeRr _ _ _) _ rfl) rfl ?_
    exact HDN.out.2
  rw [if_neg h2]
  by_cases h3 : kind = 3
  · subst h3
    rw [if_pos rfl]
    clear H0 H1 H2 H4 h0 h1 h2 HR3
    generalize (wakeA s id).1 = er at *
    generalize (wakeA s id).2 = s2 at *
    go_enter Try.func26, Try.ntmps26
    go_wp2_with fail
    clear hw3 hN
    refine H3.out.mono ?_
    rintro e w4 ⟨v4, rfl, hr4, hb4⟩
    have HX4 := Lib.hid (HX.out.below hb4)
    clear r0 r1 r2 a0 a1 a2 a3 hb4
    obtain ⟨A4, c4, rfl, _⟩ := hr4.lies
    unfold refV
    have HDN := Lib.hid (HX4.out.done (s' := s2) hr4 er)
    obtain ⟨o0, o1, o2, o3, o4, o5⟩ := three_heads HX4.out.res
    clear hr4
    generalize s2.l.length = len4 at *
    go_wp2_with fail
    refine bodyPost_ret (v := .tuple #[.agg #[.slice A4 len4 c4, .int .i64 s2.num, .int .i64 s2.den], .int .i64 er]) (results_row_tmp rfl _ _ (N + 2) _ _ _ _ rfl HDN.out.1 Try.underlying30 rfl (Try.sizeRr _ _ _) _ rfl) rfl ?_
    exact HDN.out.2
  rw [if_neg h3]
  by_cases h4 : kind = 4
  · subst h4
    rw [if_pos rfl]
    clear H0 H1 H2 H3 h0 h1 h2 h3 HR3
    generalize (weighA s id w).1 = er at *
    generalize (weighA s id w).2 = s2 at *
    go_enter Try.func26, Try.ntmps26
    go_wp2_with fail
    clear hw3 hN
    refine H4.out.mono ?_
    rintro e w4 ⟨v4, rfl, hr4, hb4⟩
    have HX4 := Lib.hid (HX.out.below hb4)
    clear r0 r1 r2 a0 a1 a2 a3 hb4
    obtain ⟨A4, c4, rfl, _⟩ := hr4.lies
    unfold refV
    have HDN := Lib.hid (HX4.out.done (s' := s2) hr4 er)
    obtain ⟨o0, o1, o2, o3, o4, o5⟩ := three_heads HX4.out.res
    clear hr4
    generalize s2.l.length = len4 at *
    go_wp2_with fail
    refine bodyPost_ret (v := .tuple #[.agg #[.slice A4 len4 c4, .int .i64 s2.num, .int .i64 s2.den], .int .i64 er]) (results_row_tmp rfl _ _ (N + 2) _ _ _ _ rfl HDN.out.1 Try.underlying30 rfl (Try.sizeRr _ _ _) _ rfl) rfl ?_
    exact HDN.out.2
  rw [if_neg h4]
  have q0 : (kind == 0) = false := beq_eq_false_iff_ne.2 h0
  have q1 : (kind == 1) = false := beq_eq_false_iff_ne.2 h1
  have q2 : (kind == 2) = false := beq_eq_false_iff_ne.2 h2
  have q3 : (kind == 3) = false := beq_eq_false_iff_ne.2 h3
  have q4 : (kind == 4) = false := beq_eq_false_iff_ne.2 h4
  clear H0 H1 H2 H3 H4 h0 h1 h2 h3 h4
  go_enter Try.func26, Try.ntmps26
  have HDN := Lib.hid (HX.out.done (s' := s) HR3.out 0)
  obtain ⟨o0, o1, o2, o3, o4, o5⟩ := three_heads HX.out.res
  go_wp2_with fail
  refine bodyPost_ret (v := .tuple #[.agg #[.slice A n c, .int .i64 s.num, .int .i64 s.den], .int .i64 0]) (results_row_tmp rfl _ _ (N + 2) _ _ _ _ rfl HDN.out.1 Try.underlying30 rfl (Try.sizeRr _ _ _) _ rfl) rfl ?_
  exact HDN.out.2
end Go.Proofs.Ytanchjcifhbllaa
