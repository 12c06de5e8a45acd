/-
  query of the program: the units of two plans, and how to ask both for the place of one.
  Conditions: the slices read as places, not too many.
-/
import Derived.Test.YtincbilobmhgeaaM04
import Derived.Test.YtincbilobmhgeaaM07
import Derived.WideLaws

/-
  query of the program: the units of two plans, and how to ask both for the place of one.
  Conditions: the slices read as places, not too many.
-/
set_option linter.unusedVariables false
set_option linter.unusedSimpArgs false
namespace Go.Proofs.Ytincbilobmhgeaa
open Go.RowKit Go.Maps

theorem one_head {w : World} {P t : Nat} {a : Value} (h : w.heap[P]? = some (.cells #[a] t (0, 0))) : w.cell? ⟨P, 0, none⟩ = some a := by
  simp [World.cell?, h]
theorem box_frozen {w : World} {P t : Nat} {cs : Array Value} (h : w.heap[P]? = some (.cells cs t (0, 0))) : w.frozen? ⟨P, 0, none⟩ = false := by
  simp [World.frozen?, h]
/-- Pieces don't lie in a block where no number of theirs stands. -/
theorem pcs_no {W : World} {R : Nat} (hR : ∀ o i t, W.cell? ⟨R, o, none⟩ = some (.int .i64 i) → W.cell? ⟨R, o + 1, none⟩ ≠ some (.int .u64 t)) {v : Value} {ps : List Pc} (h : PcsAt W v ps) : PcsIn (fun b => b ≠ R) W v ps := by
  obtain ⟨A, c, h1, h2, h3, h4⟩ := h
  refine ⟨A, c, h1, h2, h3, fun hn => ?_⟩
  obtain ⟨b, off, e, hlt, hf, hc⟩ := h4 hn
  refine ⟨b, off, e, hlt, fun e' => ?_, hc⟩
  subst e'
  obtain ⟨y, hy⟩ := exP_at (xs := ps) (k := 0) hn
  exact hR _ _ _ (hc 0 y hy).1 (hc 0 y hy).2
theorem MapX.keepR {W W' : World} {mb N : Nat} {F : Int → Option Pl} (h : MapX W mb N F) {R : Nat} (hs : W.heap.size ≤ W'.heap.size) (hk : ∀ b, b < W.heap.size → b ≠ R → W'.heap[b]? = W.heap[b]?) (hR : ∀ o i t, W.cell? ⟨R, o, none⟩ = some (.int .i64 i) → W.cell? ⟨R, o + 1, none⟩ ≠ some (.int .u64 t)) (hm : mb ≠ R) : MapX W' mb N F := by
  obtain ⟨V, D, h⟩ := h
  exact ⟨V, D, own22_keep h.own (hk mb h.own.lt hm), h.val, h.has_, fun q => ((pcs_no hR (h.pcs q)).keepF hs fun b hb hn => hk b hb hn).any⟩
theorem box_no {W : World} {R T : Nat} {a : Option Nat} (h : W.heap[R]? = some (.cells #[.map a] T (0, 0))) : ∀ o i t, W.cell? ⟨R, o, none⟩ = some (.int .i64 i) → W.cell? ⟨R, o + 1, none⟩ ≠ some (.int .u64 t) := by
  intro o i t e
  simp [World.cell?, h] at e
  rcases o with _ | o
  · simp at e
  · simp at e
theorem map_ne_box {W : World} {mb N R T : Nat} {F : Int → Option Pl} {cs : Array Value} {fr : Nat × Nat} (h : MapX W mb N F) (hq : W.heap[R]? = some (.cells cs T fr)) : mb ≠ R := by
  rintro rfl
  obtain ⟨es, cl, hb⟩ := h.isMap
  rw [hb] at hq
  cases hq
theorem setCell_other (w : World) (R k : Nat) (x : Value) (h : k ≠ R) : (w.setCell ⟨R, 0, none⟩ x).heap[k]? = w.heap[k]? := Below.heap_setCell w ⟨R, 0, none⟩ x k h
/-- Both variables hold their maps: in a world behind w0. -/
structure QSt (w0 W Wm : World) (R1 R2 m1 m2 N1 N2 : Nat) (F1 F2 : Int → Option Pl) : Prop where
  mid : Below w0.heap.size w0 Wm
  c2 : Wm.cell? ⟨R2, 0, none⟩ = some (.map none)
  z2 : Wm.frozen? ⟨R2, 0, none⟩ = false
  a : MapX W m1 N1 F1
  b : MapX W m2 N2 F2
  ne : m1 ≠ m2
  q1 : W.cell? ⟨R1, 0, none⟩ = some (.map (some m1))
  q2 : W.cell? ⟨R2, 0, none⟩ = some (.map (some m2))
  l1 : R1 < W.heap.size
  l2 : R2 < W.heap.size
  below : Below w0.heap.size w0 W
theorem query_end {w0 cur : World} {R1 R2 m1 m2 N1 N2 T1 T2 : Nat} {F1 F2 : Int → Option Pl} (hne : m1 ≠ m2) (h1 : MapX cur m1 N1 F1) (h2 : MapX cur m2 N2 F2) (q1 : cur.heap[R1]? = some (.cells #[.map none] T1 (0, 0))) (q2 : cur.heap[R2]? = some (.cells #[.map none] T2 (0, 0))) (hr : R1 ≠ R2)
    (l1 : w0.heap.size ≤ R1) (l2 : w0.heap.size ≤ R2) (hk : Below w0.heap.size w0 cur) : QSt w0 ((cur.setCell ⟨R1, 0, none⟩ (.map (some m1))).setCell ⟨R2, 0, none⟩ (.map (some m2))) (cur.setCell ⟨R1, 0, none⟩ (.map (some m1))) R1 R2 m1 m2 N1 N2 F1 F2 := by
  have b1 := setCell_other cur R1 (x := .map (some m1))
  have b2 := setCell_other (cur.setCell ⟨R1, 0, none⟩ (.map (some m1))) R2 (x := .map (some m2))
  have s1 : (cur.setCell ⟨R1, 0, none⟩ (.map (some m1))).heap.size = cur.heap.size := by simp [World.setCell]
  have s2 : ((cur.setCell ⟨R1, 0, none⟩ (.map (some m1))).setCell ⟨R2, 0, none⟩ (.map (some m2))).heap.size = cur.heap.size := by simp [World.setCell]
  have q1' := heap_setCell_mem cur R1 0 _ _ _ (.map (some m1)) q1
  have q2m : (cur.setCell ⟨R1, 0, none⟩ (.map (some m1))).heap[R2]? = _ := (b1 R2 (fun e => hr e.symm)).trans q2
  have q2' := heap_setCell_mem _ R2 0 _ _ _ (.map (some m2)) q2m
  have n1 := map_ne_box h1 q1
  have n2 := map_ne_box h1 q2
  have n3 := map_ne_box h2 q1
  have n4 := map_ne_box h2 q2
  have a1 : MapX (cur.setCell ⟨R1, 0, none⟩ (.map (some m1))) m1 N1 F1 := h1.keepR (by omega) (fun b _ hb => b1 b hb) (box_no q1) n1
  have a2 : MapX (cur.setCell ⟨R1, 0, none⟩ (.map (some m1))) m2 N2 F2 := h2.keepR (by omega) (fun b _ hb => b1 b hb) (box_no q1) n3
  have k1 : Below w0.heap.size w0 (cur.setCell ⟨R1, 0, none⟩ (.map (some m1))) := hk.trans ⟨rfl, rfl, rfl, by rw [s1]; exact Nat.le_refl _, fun k hlt => b1 k (by omega)⟩
  refine ⟨k1, one_head q2m, box_frozen q2m, a1.keepR (by omega) (fun b _ hb => b2 b hb) (box_no q2m) n2, a2.keepR (by omega) (fun b _ hb => b2 b hb) (box_no q2m) n4, hne, ?_, one_head q2', ?_, ?_, ?_⟩
  · exact one_head ((b2 R1 hr).trans q1')
  · rw [s2]; exact heap_lt q1
  · rw [s2]; exact heap_lt q2
  · exact k1.trans ⟨rfl, rfl, rfl, by rw [s2, ← s1]; exact Nat.le_refl _, fun k hlt => b2 k (by omega)⟩
/-- A function value that tells of each unit its places. -/
def AskAt (W : World) (g : Value) (F1 F2 : Int → Option Pl) : Prop := ∃ R1 R2 m1 m2 N1 N2, g = .func (.func 46) #[] #[.pointer (some ⟨R1, 0, none⟩), .pointer (some ⟨R2, 0, none⟩)] ∧ MapX W m1 N1 F1 ∧ MapX W m2 N2 F2 ∧
  W.cell? ⟨R1, 0, none⟩ = some (.map (some m1)) ∧ W.cell? ⟨R2, 0, none⟩ = some (.map (some m2)) ∧ R1 < W.heap.size ∧ R2 < W.heap.size
theorem AskAt.keep {W W' : World} {g : Value} {F1 F2 : Int → Option Pl} (h : AskAt W g F1 F2) (hb : Below W.heap.size W W') : AskAt W' g F1 F2 := by
  obtain ⟨R1, R2, m1, m2, N1, N2, e, h1, h2, c1, c2, l1, l2⟩ := h
  exact ⟨R1, R2, m1, m2, N1, N2, e, h1.keep hb, h2.keep hb, (hb.cell (p := ⟨R1, 0, none⟩) l1).trans c1, (hb.cell (p := ⟨R2, 0, none⟩) l2).trans c2, Nat.lt_of_lt_of_le l1 hb.size, Nat.lt_of_lt_of_le l2 hb.size⟩
/-- It is called. -/
theorem AskAt.form {W : World} {g : Value} {F1 F2 : Int → Option Pl} (h : AskAt W g F1 F2) : ∃ p q, g = .func (.func 46) #[] #[p, q] ∧ ∀ (u : Int) (W' : World), Below W.heap.size W W' → -9223372036854775808 ≤ u → u ≤ 9223372036854775807 → Calls Try.prog 46 #[.int .i64 u, p, q] W' (RetTwo (plF F1 u) (plF F2 u) W') := by
  obtain ⟨R1, R2, m1, m2, N1, N2, e, h1, h2, c1, c2, l1, l2⟩ := h
  refine ⟨_, _, e, fun u W' hb hu0 hu1 => ?_⟩
  exact ask_any u m1 m2 N1 N2 F1 F2 R1 R2 W' (h1.keep hb) (h2.keep hb) ((hb.cell (p := ⟨R1, 0, none⟩) l1).trans c1) ((hb.cell (p := ⟨R2, 0, none⟩) l2).trans c2) (Nat.lt_of_lt_of_le l1 hb.size) (Nat.lt_of_lt_of_le l2 hb.size) hu0 hu1
/-- The units of both. -/
def UnitsOf (F1 F2 : Int → Option Pl) (xs : List Int) : Prop := Up xs ∧ (∀ u, u ∈ xs ↔ ((F1 u).isSome = true ∨ (F2 u).isSome = true)) ∧ ∀ u ∈ xs, -9223372036854775808 ≤ u ∧ u ≤ 9223372036854775807
def RetQ (N : Nat) (F1 F2 : Int → Option Pl) (w : World) (e : Ending) (w9 : World) : Prop := ∃ v g xs, e = .returned (.tuple #[v, g]) ∧ UnitsOf F1 F2 xs ∧ xs.length ≤ N ∧ IntsAt w9 v xs ∧ AskAt w9 g F1 F2 ∧ Below w.heap.size w w9

set_option maxRecDepth 100000 in
set_option maxHeartbeats 8000000 in
theorem query_any (f1 f2 : Int) (m1 m2 : Nat) (v1 v2 : Value) (la lb : List Pl) (w : World) (h1 : PlsAt w v1 la) (h2 : PlsAt w v2 lb) (hl1 : la.length ≤ 1000) (hl2 : lb.length ≤ 1000) (hu1 : ∀ x ∈ la, -9223372036854775808 ≤ x.u ∧ x.u ≤ 9223372036854775807) (hu2 : ∀ x ∈ lb, -9223372036854775808 ≤ x.u ∧ x.u ≤ 9223372036854775807) :
    Calls Try.prog 32 #[planA f1 m1 v1, planA f2 m2 v2] w (RetQ (la.length + lb.length) (idxF la) (idxF lb) w) := by
  have mixed : Try.prog.follows .mixedOrders = true := by kernel_rfl
  obtain ⟨w1, P, hw1, hP, hPl, hb1, hpb⟩ := box_any w #[.int .i64 f1, .int .u32 m1, v1] 25
  obtain ⟨w2, Q, hw2, hQ, hQl, hb2, hqb⟩ := box_any w1 #[.int .i64 f2, .int .u32 m2, v2] 25
  have HB2 := Lib.hid (hb1.trans (hb2.mono hb1.size))
  have HPB := Lib.hid (keep_block hpb hb2)
  have HQB := Lib.hid hqb
  have HSA : Hid (∀ W, Below w2.heap.size w2 W → W.cell? ⟨P, 0, none⟩ = some (.int .i64 f1) ∧ W.cell? ⟨P, 1, none⟩ = some (.int .u32 m1) ∧ W.cell? ⟨P, 2, none⟩ = some v1 ∧ W.cell? ⟨Q, 0, none⟩ = some (.int .i64 f2) ∧ W.cell? ⟨Q, 1, none⟩ = some (.int .u32 m2) ∧ W.cell? ⟨Q, 2, none⟩ = some v2) := Lib.hid (fun W hk => by
    obtain ⟨a, b, c⟩ := three_heads (keep_block HPB.out hk)
    obtain ⟨d, e, f⟩ := three_heads (keep_block HQB.out hk)
    exact ⟨a, b, c, d, e, f⟩)
  have HI1 := Lib.hid (fun W (hk : Below w2.heap.size w2 W) => index_any f1 m1 v1 la W (h1.keep (HB2.out.trans (hk.mono HB2.out.size))) hl1 hu1)
  have HI2 := Lib.hid (fun W (hk : Below w2.heap.size w2 W) => index_any f2 m2 v2 lb W (h2.keep (HB2.out.trans (hk.mono HB2.out.size))) hl2 hu2)
  obtain ⟨na, hna⟩ : ∃ n, la.length = n := ⟨_, rfl⟩
  obtain ⟨nb, hnb⟩ : ∃ n, lb.length = n := ⟨_, rfl⟩
  obtain ⟨FA, hFA⟩ : ∃ F, idxF la = F := ⟨_, rfl⟩
  obtain ⟨FB, hFB⟩ : ∃ F, idxF lb = F := ⟨_, rfl⟩
  rw [hna] at hl1
  rw [hnb] at hl2
  rw [hna, hnb, hFA, hFB]
  rw [hna, hFA] at HI1
  rw [hnb, hFB] at HI2
  unfold planA RetMap at HI1 HI2
  unfold planA
  have hvf1 : ∃ A n c, v1 = .slice A n c := by obtain ⟨A, c, e, _⟩ := h1.form; exact ⟨A, _, c, e⟩
  have hvf2 : ∃ A n c, v2 = .slice A n c := by obtain ⟨A, c, e, _⟩ := h2.form; exact ⟨A, _, c, e⟩
  obtain ⟨vA1, vn1, vc1, rfl⟩ := hvf1
  obtain ⟨vA2, vn2, vc2, rfl⟩ := hvf2
  clear h1 h2 hu1 hu2 hna hnb hFA hFB hb1 hb2 hpb hqb
  go_enter Try.func32, Try.ntmps32
  go_upto_region 1 with fail
  clear hw1 hw2 hP hQ
  go_cut [6, 7] from 9 to 13 (fun s6 s7 wx => ∃ R1 R2 mm1 mm2, s6 = .pointer (some ⟨R1, 0, none⟩) ∧ s7 = .pointer (some ⟨R2, 0, none⟩) ∧ ∃ Wm, QSt w2 wx Wm R1 R2 mm1 mm2 na nb FA FB)
  case first =>
    have hkd : Below w2.heap.size w2 w2.drew := (Below.refl _ _).drew
    refine wp_region_held_drew (S := fun w' => w'.cell? ⟨P, 0, none⟩ = some (.int .i64 f1) ∧ w'.cell? ⟨P, 1, none⟩ = some (.int .u32 m1) ∧ w'.cell? ⟨P, 2, none⟩ = some (.slice vA1 vn1 vc1) ∧ w'.cell? ⟨Q, 0, none⟩ = some (.int .i64 f2) ∧ w'.cell? ⟨Q, 1, none⟩ = some (.int .u32 m2) ∧ w'.cell? ⟨Q, 2, none⟩ = some (.slice vA2 vn2 vc2)) (by kernel_rfl) ?_ (fun hHeld => ?_)
    · exact HSA.out _ hkd
    refine wpAnyH_take (i := 0) (oi := ⟨some 9, _, _, _, _, _⟩) (v := ?_) rfl (by kernel_rfl) (by kernel_rfl) (by kernel_rfl) (fun _ _ _ h => h) (Or.inl ⟨by kernel_rfl, ?_⟩) (by assumption) ?_
    rotate_left
    · (intro w hSw; (try dsimp only at hSw); go_simp; try with_reducible rfl)
    (try simp only [Act.put, List.setIfInBounds_toArray, List.set_cons_zero, List.set_cons_succ])
    refine wpAnyH_take (i := 2) (oi := ⟨some 11, _, _, _, _, _⟩) (v := ?_) rfl (by kernel_rfl) (by kernel_rfl) (by kernel_rfl) (fun _ _ _ h => h) (Or.inl ⟨by kernel_rfl, ?_⟩) (by assumption) ?_
    rotate_left
    · (intro w hSw; (try dsimp only at hSw); go_simp; try with_reducible rfl)
    (try simp only [Act.put, List.setIfInBounds_toArray, List.set_cons_zero, List.set_cons_succ])
    refine wpAnyH_ready (rs := [1, 4, 5]) (by kernel_rfl) (by simp) ?_
    refine AllReadyH.cons (o := ⟨some 10, _, _, _, _, _⟩) rfl (fun K hK => ?_) (AllReadyH.cons (o := ⟨some 6, _, _, _, _, _⟩) rfl (fun K hK => ?_) (AllReadyH.cons (o := ⟨some 7, _, _, _, _, _⟩) rfl (fun K hK => ?_) AllReadyH.nil))
    · rw [if_pos (by kernel_rfl)]
      go_simp
      go_at_call 37; refine (HI1.out _ hkd).mono ?_; rintro e w11 ⟨mm1, rfl, hlo1, hm1, hb11⟩
      have hk11 := hkd.trans (hb11.mono hkd.size)
      refine hK.out _ _ ?_ (fun hHeld => ?_)
      · exact HSA.out _ hk11
      clear hK K
      (try simp only [Act.put, List.setIfInBounds_toArray, List.set_cons_zero, List.set_cons_succ])
      refine wpAnyH_ready (rs := [3, 4, 5]) (by kernel_rfl) (by simp) ?_
      refine AllReadyH.cons (o := ⟨some 12, _, _, _, _, _⟩) rfl (fun K hK => ?_) (AllReadyH.cons (o := ⟨some 6, _, _, _, _, _⟩) rfl (fun K hK => ?_) (AllReadyH.cons (o := ⟨some 7, _, _, _, _, _⟩) rfl (fun K hK => ?_) AllReadyH.nil))
      · rw [if_pos (by kernel_rfl)]
        go_simp
        go_at_call 37; refine (HI2.out _ hk11).mono ?_; rintro e w12 ⟨mm2, rfl, hlo2, hm2, hb12⟩
        have hk12 := hk11.trans (hb12.mono hk11.size)
        have hmne : mm1 ≠ mm2 := by have := hm1.lt; omega
        have hm1 := hm1.keep hb12
        refine hK.out _ _ ?_ (fun hHeld => ?_)
        · exact HSA.out _ hk12
        clear hK K
        (try simp only [Act.put, List.setIfInBounds_toArray, List.set_cons_zero, List.set_cons_succ])
        refine wpAnyH_ready (rs := [4, 5]) (by kernel_rfl) (by simp) ?_
        refine AllReadyH.cons (o := ⟨some 6, _, _, _, _, _⟩) rfl (fun K hK => ?_) (AllReadyH.cons (o := ⟨some 7, _, _, _, _, _⟩) rfl (fun K hK => ?_) AllReadyH.nil)
        · obtain ⟨w13, R1, hw13, hR1, hRl1, hb13, hq1⟩ := box_any w12 #[.map none] 57
          have hk13 := hk12.trans (hb13.mono hk12.size)
          have hrl1 : w2.heap.size ≤ R1 := by have := hk12.size; omega
          rw [if_pos (by kernel_rfl)]
          go_simp
          have hm1 := hm1.keep hb13
          have hm2 := hm2.keep hb13
          refine hK.out _ _ ?_ (fun hHeld => ?_)
          · exact HSA.out _ hk13
          clear hK K
          (try simp only [Act.put, List.setIfInBounds_toArray, List.set_cons_zero, List.set_cons_succ])
          clear hw13
          refine wpAnyH_ready (rs := [5]) (by kernel_rfl) (by simp) ?_
          refine AllReadyH.cons (o := ⟨some 7, _, _, _, _, _⟩) rfl (fun K hK => ?_) AllReadyH.nil
          obtain ⟨w14, R2, hw14, hR2, hRl2, hb14, hq2⟩ := box_any w13 #[.map none] 57
          have hk14 := hk13.trans (hb14.mono hk13.size)
          have hrl2 : w2.heap.size ≤ R2 := by have := hk13.size; omega
          rw [if_pos (by kernel_rfl)]
          go_simp
          have hqne : R1 < R2 := by have := heap_lt hq1; omega
          have hm1 := hm1.keep hb14
          have hm2 := hm2.keep hb14
          have hq1 := keep_block hq1 hb14
          refine hK.out _ _ ?_ (fun hHeld => ?_)
          · exact HSA.out _ hk14
          clear hK K
          (try simp only [Act.put, List.setIfInBounds_toArray, List.set_cons_zero, List.set_cons_succ])
          clear hw14
          refine wpAnyH_ready (rs := [6]) (by kernel_rfl) (by simp) ?_
          refine AllReadyH.cons (o := ⟨none, _, _, _, _, _⟩) rfl (fun K hK => ?_) AllReadyH.nil
          have HK := Lib.hid (query_end hmne hm1 hm2 hq1 hq2 (by omega) hrl1 hrl2 hk14)
          have d1 := one_head hq1
          have z1 := box_frozen hq1
          clear hm1 hm2 hq1 hq2
          rw [if_pos (by kernel_rfl)]
          go_simp
          refine hK.out _ _ ?_ (fun hHeld => ?_)
          · exact HSA.out _ HK.out.mid
          clear hK K
          (try simp only [Act.put, List.setIfInBounds_toArray, List.set_cons_zero, List.set_cons_succ])
          refine wpAnyH_ready (rs := [7]) (by kernel_rfl) (by simp) ?_
          refine AllReadyH.cons (o := ⟨none, _, _, _, _, _⟩) rfl (fun K hK => ?_) AllReadyH.nil
          have d2 := HK.out.c2
          have z2 := HK.out.z2
          rw [if_pos (by kernel_rfl)]
          go_simp
          refine hK.out _ _ ?_ (fun hHeld => ?_)
          · exact HSA.out _ HK.out.below
          clear hK K
          (try simp only [Act.put, List.setIfInBounds_toArray, List.set_cons_zero, List.set_cons_succ])
          refine wpAnyH_done (by kernel_rfl) ?_ _
          go_wp2_with fail
          go_meet
          exact ⟨R1, R2, mm1, mm2, rfl, rfl, _, HK.out⟩
        · obtain ⟨w16, R2, hw16, hR2, hRl2, hb16, hq2⟩ := box_any w12 #[.map none] 57
          have hk16 := hk12.trans (hb16.mono hk12.size)
          have hrl2 : w2.heap.size ≤ R2 := by have := hk12.size; omega
          rw [if_pos (by kernel_rfl)]
          go_simp
          have hm1 := hm1.keep hb16
          have hm2 := hm2.keep hb16
          refine hK.out _ _ ?_ (fun hHeld => ?_)
          · exact HSA.out _ hk16
          clear hK K
          (try simp only [Act.put, List.setIfInBounds_toArray, List.set_cons_zero, List.set_cons_succ])
          clear hw16
          refine wpAnyH_ready (rs := [4]) (by kernel_rfl) (by simp) ?_
          refine AllReadyH.cons (o := ⟨some 6, _, _, _, _, _⟩) rfl (fun K hK => ?_) AllReadyH.nil
          obtain ⟨w17, R1, hw17, hR1, hRl1, hb17, hq1⟩ := box_any w16 #[.map none] 57
          have hk17 := hk16.trans (hb17.mono hk16.size)
          have hrl1 : w2.heap.size ≤ R1 := by have := hk16.size; omega
          rw [if_pos (by kernel_rfl)]
          go_simp
          have hqne : R2 < R1 := by have := heap_lt hq2; omega
          have hm1 := hm1.keep hb17
          have hm2 := hm2.keep hb17
          have hq2 := keep_block hq2 hb17
          refine hK.out _ _ ?_ (fun hHeld => ?_)
          · exact HSA.out _ hk17
          clear hK K
          (try simp only [Act.put, List.setIfInBounds_toArray, List.set_cons_zero, List.set_cons_succ])
          clear hw17
          refine wpAnyH_ready (rs := [6]) (by kernel_rfl) (by simp) ?_
          refine AllReadyH.cons (o := ⟨none, _, _, _, _, _⟩) rfl (fun K hK => ?_) AllReadyH.nil
          have HK := Lib.hid (query_end hmne hm1 hm2 hq1 hq2 (by omega) hrl1 hrl2 hk17)
          have d1 := one_head hq1
          have z1 := box_frozen hq1
          clear hm1 hm2 hq1 hq2
          rw [if_pos (by kernel_rfl)]
          go_simp
          refine hK.out _ _ ?_ (fun hHeld => ?_)
          · exact HSA.out _ HK.out.mid
          clear hK K
          (try simp only [Act.put, List.setIfInBounds_toArray, List.set_cons_zero, List.set_cons_succ])
          refine wpAnyH_ready (rs := [7]) (by kernel_rfl) (by simp) ?_
          refine AllReadyH.cons (o := ⟨none, _, _, _, _, _⟩) rfl (fun K hK => ?_) AllReadyH.nil
          have d2 := HK.out.c2
          have z2 := HK.out.z2
          rw [if_pos (by kernel_rfl)]
          go_simp
          refine hK.out _ _ ?_ (fun hHeld => ?_)
          · exact HSA.out _ HK.out.below
          clear hK K
          (try simp only [Act.put, List.setIfInBounds_toArray, List.set_cons_zero, List.set_cons_succ])
          refine wpAnyH_done (by kernel_rfl) ?_ _
          go_wp2_with fail
          go_meet
          exact ⟨R1, R2, mm1, mm2, rfl, rfl, _, HK.out⟩
      · obtain ⟨w19, R1, hw19, hR1, hRl1, hb19, hq1⟩ := box_any w11 #[.map none] 57
        have hk19 := hk11.trans (hb19.mono hk11.size)
        have hrl1 : w2.heap.size ≤ R1 := by have := hk11.size; omega
        rw [if_pos (by kernel_rfl)]
        go_simp
        have hm1 := hm1.keep hb19
        refine hK.out _ _ ?_ (fun hHeld => ?_)
        · exact HSA.out _ hk19
        clear hK K
        (try simp only [Act.put, List.setIfInBounds_toArray, List.set_cons_zero, List.set_cons_succ])
        clear hw19
        refine wpAnyH_ready (rs := [3, 5]) (by kernel_rfl) (by simp) ?_
        refine AllReadyH.cons (o := ⟨some 12, _, _, _, _, _⟩) rfl (fun K hK => ?_) (AllReadyH.cons (o := ⟨some 7, _, _, _, _, _⟩) rfl (fun K hK => ?_) AllReadyH.nil)
        · rw [if_pos (by kernel_rfl)]
          go_simp
          go_at_call 37; refine (HI2.out _ hk19).mono ?_; rintro e w20 ⟨mm2, rfl, hlo2, hm2, hb20⟩
          have hk20 := hk19.trans (hb20.mono hk19.size)
          have hmne : mm1 ≠ mm2 := by have := hm1.lt; omega
          have hm1 := hm1.keep hb20
          have hq1 := keep_block hq1 hb20
          refine hK.out _ _ ?_ (fun hHeld => ?_)
          · exact HSA.out _ hk20
          clear hK K
          (try simp only [Act.put, List.setIfInBounds_toArray, List.set_cons_zero, List.set_cons_succ])
          refine wpAnyH_ready (rs := [5]) (by kernel_rfl) (by simp) ?_
          refine AllReadyH.cons (o := ⟨some 7, _, _, _, _, _⟩) rfl (fun K hK => ?_) AllReadyH.nil
          obtain ⟨w21, R2, hw21, hR2, hRl2, hb21, hq2⟩ := box_any w20 #[.map none] 57
          have hk21 := hk20.trans (hb21.mono hk20.size)
          have hrl2 : w2.heap.size ≤ R2 := by have := hk20.size; omega
          rw [if_pos (by kernel_rfl)]
          go_simp
          have hqne : R1 < R2 := by have := heap_lt hq1; omega
          have hm1 := hm1.keep hb21
          have hq1 := keep_block hq1 hb21
          have hm2 := hm2.keep hb21
          refine hK.out _ _ ?_ (fun hHeld => ?_)
          · exact HSA.out _ hk21
          clear hK K
          (try simp only [Act.put, List.setIfInBounds_toArray, List.set_cons_zero, List.set_cons_succ])
          clear hw21
          refine wpAnyH_ready (rs := [6]) (by kernel_rfl) (by simp) ?_
          refine AllReadyH.cons (o := ⟨none, _, _, _, _, _⟩) rfl (fun K hK => ?_) AllReadyH.nil
          have HK := Lib.hid (query_end hmne hm1 hm2 hq1 hq2 (by omega) hrl1 hrl2 hk21)
          have d1 := one_head hq1
          have z1 := box_frozen hq1
          clear hm1 hm2 hq1 hq2
          rw [if_pos (by kernel_rfl)]
          go_simp
          refine hK.out _ _ ?_ (fun hHeld => ?_)
          · exact HSA.out _ HK.out.mid
          clear hK K
          (try simp only [Act.put, List.setIfInBounds_toArray, List.set_cons_zero, List.set_cons_succ])
          refine wpAnyH_ready (rs := [7]) (by kernel_rfl) (by simp) ?_
          refine AllReadyH.cons (o := ⟨none, _, _, _, _, _⟩) rfl (fun K hK => ?_) AllReadyH.nil
          have d2 := HK.out.c2
          have z2 := HK.out.z2
          rw [if_pos (by kernel_rfl)]
          go_simp
          refine hK.out _ _ ?_ (fun hHeld => ?_)
          · exact HSA.out _ HK.out.below
          clear hK K
          (try simp only [Act.put, List.setIfInBounds_toArray, List.set_cons_zero, List.set_cons_succ])
          refine wpAnyH_done (by kernel_rfl) ?_ _
          go_wp2_with fail
          go_meet
          exact ⟨R1, R2, mm1, mm2, rfl, rfl, _, HK.out⟩
        · obtain ⟨w23, R2, hw23, hR2, hRl2, hb23, hq2⟩ := box_any w19 #[.map none] 57
          have hk23 := hk19.trans (hb23.mono hk19.size)
          have hrl2 : w2.heap.size ≤ R2 := by have := hk19.size; omega
          rw [if_pos (by kernel_rfl)]
          go_simp
          have hqne : R1 < R2 := by have := heap_lt hq1; omega
          have hm1 := hm1.keep hb23
          have hq1 := keep_block hq1 hb23
          refine hK.out _ _ ?_ (fun hHeld => ?_)
          · exact HSA.out _ hk23
          clear hK K
          (try simp only [Act.put, List.setIfInBounds_toArray, List.set_cons_zero, List.set_cons_succ])
          clear hw23
          refine wpAnyH_ready (rs := [3]) (by kernel_rfl) (by simp) ?_
          refine AllReadyH.cons (o := ⟨some 12, _, _, _, _, _⟩) rfl (fun K hK => ?_) AllReadyH.nil
          rw [if_pos (by kernel_rfl)]
          go_simp
          go_at_call 37; refine (HI2.out _ hk23).mono ?_; rintro e w24 ⟨mm2, rfl, hlo2, hm2, hb24⟩
          have hk24 := hk23.trans (hb24.mono hk23.size)
          have hmne : mm1 ≠ mm2 := by have := hm1.lt; omega
          have hm1 := hm1.keep hb24
          have hq1 := keep_block hq1 hb24
          have hq2 := keep_block hq2 hb24
          refine hK.out _ _ ?_ (fun hHeld => ?_)
          · exact HSA.out _ hk24
          clear hK K
          (try simp only [Act.put, List.setIfInBounds_toArray, List.set_cons_zero, List.set_cons_succ])
          refine wpAnyH_ready (rs := [6]) (by kernel_rfl) (by simp) ?_
          refine AllReadyH.cons (o := ⟨none, _, _, _, _, _⟩) rfl (fun K hK => ?_) AllReadyH.nil
          have HK := Lib.hid (query_end hmne hm1 hm2 hq1 hq2 (by omega) hrl1 hrl2 hk24)
          have d1 := one_head hq1
          have z1 := box_frozen hq1
          clear hm1 hm2 hq1 hq2
          rw [if_pos (by kernel_rfl)]
          go_simp
          refine hK.out _ _ ?_ (fun hHeld => ?_)
          · exact HSA.out _ HK.out.mid
          clear hK K
          (try simp only [Act.put, List.setIfInBounds_toArray, List.set_cons_zero, List.set_cons_succ])
          refine wpAnyH_ready (rs := [7]) (by kernel_rfl) (by simp) ?_
          refine AllReadyH.cons (o := ⟨none, _, _, _, _, _⟩) rfl (fun K hK => ?_) AllReadyH.nil
          have d2 := HK.out.c2
          have z2 := HK.out.z2
          rw [if_pos (by kernel_rfl)]
          go_simp
          refine hK.out _ _ ?_ (fun hHeld => ?_)
          · exact HSA.out _ HK.out.below
          clear hK K
          (try simp only [Act.put, List.setIfInBounds_toArray, List.set_cons_zero, List.set_cons_succ])
          refine wpAnyH_done (by kernel_rfl) ?_ _
          go_wp2_with fail
          go_meet
          exact ⟨R1, R2, mm1, mm2, rfl, rfl, _, HK.out⟩
      · obtain ⟨w26, R2, hw26, hR2, hRl2, hb26, hq2⟩ := box_any w11 #[.map none] 57
        have hk26 := hk11.trans (hb26.mono hk11.size)
        have hrl2 : w2.heap.size ≤ R2 := by have := hk11.size; omega
        rw [if_pos (by kernel_rfl)]
        go_simp
        have hm1 := hm1.keep hb26
        refine hK.out _ _ ?_ (fun hHeld => ?_)
        · exact HSA.out _ hk26
        clear hK K
        (try simp only [Act.put, List.setIfInBounds_toArray, List.set_cons_zero, List.set_cons_succ])
        clear hw26
        refine wpAnyH_ready (rs := [3, 4]) (by kernel_rfl) (by simp) ?_
        refine AllReadyH.cons (o := ⟨some 12, _, _, _, _, _⟩) rfl (fun K hK => ?_) (AllReadyH.cons (o := ⟨some 6, _, _, _, _, _⟩) rfl (fun K hK => ?_) AllReadyH.nil)
        · rw [if_pos (by kernel_rfl)]
          go_simp
          go_at_call 37; refine (HI2.out _ hk26).mono ?_; rintro e w27 ⟨mm2, rfl, hlo2, hm2, hb27⟩
          have hk27 := hk26.trans (hb27.mono hk26.size)
          have hmne : mm1 ≠ mm2 := by have := hm1.lt; omega
          have hm1 := hm1.keep hb27
          have hq2 := keep_block hq2 hb27
          refine hK.out _ _ ?_ (fun hHeld => ?_)
          · exact HSA.out _ hk27
          clear hK K
          (try simp only [Act.put, List.setIfInBounds_toArray, List.set_cons_zero, List.set_cons_succ])
          refine wpAnyH_ready (rs := [4]) (by kernel_rfl) (by simp) ?_
          refine AllReadyH.cons (o := ⟨some 6, _, _, _, _, _⟩) rfl (fun K hK => ?_) AllReadyH.nil
          obtain ⟨w28, R1, hw28, hR1, hRl1, hb28, hq1⟩ := box_any w27 #[.map none] 57
          have hk28 := hk27.trans (hb28.mono hk27.size)
          have hrl1 : w2.heap.size ≤ R1 := by have := hk27.size; omega
          rw [if_pos (by kernel_rfl)]
          go_simp
          have hqne : R2 < R1 := by have := heap_lt hq2; omega
          have hm1 := hm1.keep hb28
          have hq2 := keep_block hq2 hb28
          have hm2 := hm2.keep hb28
          refine hK.out _ _ ?_ (fun hHeld => ?_)
          · exact HSA.out _ hk28
          clear hK K
          (try simp only [Act.put, List.setIfInBounds_toArray, List.set_cons_zero, List.set_cons_succ])
          clear hw28
          refine wpAnyH_ready (rs := [6]) (by kernel_rfl) (by simp) ?_
          refine AllReadyH.cons (o := ⟨none, _, _, _, _, _⟩) rfl (fun K hK => ?_) AllReadyH.nil
          have HK := Lib.hid (query_end hmne hm1 hm2 hq1 hq2 (by omega) hrl1 hrl2 hk28)
          have d1 := one_head hq1
          have z1 := box_frozen hq1
          clear hm1 hm2 hq1 hq2
          rw [if_pos (by kernel_rfl)]
          go_simp
          refine hK.out _ _ ?_ (fun hHeld => ?_)
          · exact HSA.out _ HK.out.mid
          clear hK K
          (try simp only [Act.put, List.setIfInBounds_toArray, List.set_cons_zero, List.set_cons_succ])
          refine wpAnyH_ready (rs := [7]) (by kernel_rfl) (by simp) ?_
          refine AllReadyH.cons (o := ⟨none, _, _, _, _, _⟩) rfl (fun K hK => ?_) AllReadyH.nil
          have d2 := HK.out.c2
          have z2 := HK.out.z2
          rw [if_pos (by kernel_rfl)]
          go_simp
          refine hK.out _ _ ?_ (fun hHeld => ?_)
          · exact HSA.out _ HK.out.below
          clear hK K
          (try simp only [Act.put, List.setIfInBounds_toArray, List.set_cons_zero, List.set_cons_succ])
          refine wpAnyH_done (by kernel_rfl) ?_ _
          go_wp2_with fail
          go_meet
          exact ⟨R1, R2, mm1, mm2, rfl, rfl, _, HK.out⟩
        · obtain ⟨w30, R1, hw30, hR1, hRl1, hb30, hq1⟩ := box_any w26 #[.map none] 57
          have hk30 := hk26.trans (hb30.mono hk26.size)
          have hrl1 : w2.heap.size ≤ R1 := by have := hk26.size; omega
          rw [if_pos (by kernel_rfl)]
          go_simp
          have hqne : R2 < R1 := by have := heap_lt hq2; omega
          have hm1 := hm1.keep hb30
          have hq2 := keep_block hq2 hb30
          refine hK.out _ _ ?_ (fun hHeld => ?_)
          · exact HSA.out _ hk30
          clear hK K
          (try simp only [Act.put, List.setIfInBounds_toArray, List.set_cons_zero, List.set_cons_succ])
          clear hw30
          refine wpAnyH_ready (rs := [3]) (by kernel_rfl) (by simp) ?_
          refine AllReadyH.cons (o := ⟨some 12, _, _, _, _, _⟩) rfl (fun K hK => ?_) AllReadyH.nil
          rw [if_pos (by kernel_rfl)]
          go_simp
          go_at_call 37; refine (HI2.out _ hk30).mono ?_; rintro e w31 ⟨mm2, rfl, hlo2, hm2, hb31⟩
          have hk31 := hk30.trans (hb31.mono hk30.size)
          have hmne : mm1 ≠ mm2 := by have := hm1.lt; omega
          have hm1 := hm1.keep hb31
          have hq2 := keep_block hq2 hb31
          have hq1 := keep_block hq1 hb31
          refine hK.out _ _ ?_ (fun hHeld => ?_)
          · exact HSA.out _ hk31
          clear hK K
          (try simp only [Act.put, List.setIfInBounds_toArray, List.set_cons_zero, List.set_cons_succ])
          refine wpAnyH_ready (rs := [6]) (by kernel_rfl) (by simp) ?_
          refine AllReadyH.cons (o := ⟨none, _, _, _, _, _⟩) rfl (fun K hK => ?_) AllReadyH.nil
          have HK := Lib.hid (query_end hmne hm1 hm2 hq1 hq2 (by omega) hrl1 hrl2 hk31)
          have d1 := one_head hq1
          have z1 := box_frozen hq1
          clear hm1 hm2 hq1 hq2
          rw [if_pos (by kernel_rfl)]
          go_simp
          refine hK.out _ _ ?_ (fun hHeld => ?_)
          · exact HSA.out _ HK.out.mid
          clear hK K
          (try simp only [Act.put, List.setIfInBounds_toArray, List.set_cons_zero, List.set_cons_succ])
          refine wpAnyH_ready (rs := [7]) (by kernel_rfl) (by simp) ?_
          refine AllReadyH.cons (o := ⟨none, _, _, _, _, _⟩) rfl (fun K hK => ?_) AllReadyH.nil
          have d2 := HK.out.c2
          have z2 := HK.out.z2
          rw [if_pos (by kernel_rfl)]
          go_simp
          refine hK.out _ _ ?_ (fun hHeld => ?_)
          · exact HSA.out _ HK.out.below
          clear hK K
          (try simp only [Act.put, List.setIfInBounds_toArray, List.set_cons_zero, List.set_cons_succ])
          refine wpAnyH_done (by kernel_rfl) ?_ _
          go_wp2_with fail
          go_meet
          exact ⟨R1, R2, mm1, mm2, rfl, rfl, _, HK.out⟩
    · obtain ⟨w33, R1, hw33, hR1, hRl1, hb33, hq1⟩ := box_any w2.drew #[.map none] 57
      have hk33 := hkd.trans (hb33.mono hkd.size)
      have hrl1 : w2.heap.size ≤ R1 := by have := hkd.size; omega
      rw [if_pos (by kernel_rfl)]
      go_simp
      refine hK.out _ _ ?_ (fun hHeld => ?_)
      · exact HSA.out _ hk33
      clear hK K
      (try simp only [Act.put, List.setIfInBounds_toArray, List.set_cons_zero, List.set_cons_succ])
      clear hw33
      refine wpAnyH_ready (rs := [1, 5]) (by kernel_rfl) (by simp) ?_
      refine AllReadyH.cons (o := ⟨some 10, _, _, _, _, _⟩) rfl (fun K hK => ?_) (AllReadyH.cons (o := ⟨some 7, _, _, _, _, _⟩) rfl (fun K hK => ?_) AllReadyH.nil)
      · rw [if_pos (by kernel_rfl)]
        go_simp
        go_at_call 37; refine (HI1.out _ hk33).mono ?_; rintro e w34 ⟨mm1, rfl, hlo1, hm1, hb34⟩
        have hk34 := hk33.trans (hb34.mono hk33.size)
        have hq1 := keep_block hq1 hb34
        refine hK.out _ _ ?_ (fun hHeld => ?_)
        · exact HSA.out _ hk34
        clear hK K
        (try simp only [Act.put, List.setIfInBounds_toArray, List.set_cons_zero, List.set_cons_succ])
        refine wpAnyH_ready (rs := [3, 5]) (by kernel_rfl) (by simp) ?_
        refine AllReadyH.cons (o := ⟨some 12, _, _, _, _, _⟩) rfl (fun K hK => ?_) (AllReadyH.cons (o := ⟨some 7, _, _, _, _, _⟩) rfl (fun K hK => ?_) AllReadyH.nil)
        · rw [if_pos (by kernel_rfl)]
          go_simp
          go_at_call 37; refine (HI2.out _ hk34).mono ?_; rintro e w35 ⟨mm2, rfl, hlo2, hm2, hb35⟩
          have hk35 := hk34.trans (hb35.mono hk34.size)
          have hmne : mm1 ≠ mm2 := by have := hm1.lt; omega
          have hq1 := keep_block hq1 hb35
          have hm1 := hm1.keep hb35
          refine hK.out _ _ ?_ (fun hHeld => ?_)
          · exact HSA.out _ hk35
          clear hK K
          (try simp only [Act.put, List.setIfInBounds_toArray, List.set_cons_zero, List.set_cons_succ])
          refine wpAnyH_ready (rs := [5]) (by kernel_rfl) (by simp) ?_
          refine AllReadyH.cons (o := ⟨some 7, _, _, _, _, _⟩) rfl (fun K hK => ?_) AllReadyH.nil
          obtain ⟨w36, R2, hw36, hR2, hRl2, hb36, hq2⟩ := box_any w35 #[.map none] 57
          have hk36 := hk35.trans (hb36.mono hk35.size)
          have hrl2 : w2.heap.size ≤ R2 := by have := hk35.size; omega
          rw [if_pos (by kernel_rfl)]
          go_simp
          have hqne : R1 < R2 := by have := heap_lt hq1; omega
          have hq1 := keep_block hq1 hb36
          have hm1 := hm1.keep hb36
          have hm2 := hm2.keep hb36
          refine hK.out _ _ ?_ (fun hHeld => ?_)
          · exact HSA.out _ hk36
          clear hK K
          (try simp only [Act.put, List.setIfInBounds_toArray, List.set_cons_zero, List.set_cons_succ])
          clear hw36
          refine wpAnyH_ready (rs := [6]) (by kernel_rfl) (by simp) ?_
          refine AllReadyH.cons (o := ⟨none, _, _, _, _, _⟩) rfl (fun K hK => ?_) AllReadyH.nil
          have HK := Lib.hid (query_end hmne hm1 hm2 hq1 hq2 (by omega) hrl1 hrl2 hk36)
          have d1 := one_head hq1
          have z1 := box_frozen hq1
          clear hm1 hm2 hq1 hq2
          rw [if_pos (by kernel_rfl)]
          go_simp
          refine hK.out _ _ ?_ (fun hHeld => ?_)
          · exact HSA.out _ HK.out.mid
          clear hK K
          (try simp only [Act.put, List.setIfInBounds_toArray, List.set_cons_zero, List.set_cons_succ])
          refine wpAnyH_ready (rs := [7]) (by kernel_rfl) (by simp) ?_
          refine AllReadyH.cons (o := ⟨none, _, _, _, _, _⟩) rfl (fun K hK => ?_) AllReadyH.nil
          have d2 := HK.out.c2
          have z2 := HK.out.z2
          rw [if_pos (by kernel_rfl)]
          go_simp
          refine hK.out _ _ ?_ (fun hHeld => ?_)
          · exact HSA.out _ HK.out.below
          clear hK K
          (try simp only [Act.put, List.setIfInBounds_toArray, List.set_cons_zero, List.set_cons_succ])
          refine wpAnyH_done (by kernel_rfl) ?_ _
          go_wp2_with fail
          go_meet
          exact ⟨R1, R2, mm1, mm2, rfl, rfl, _, HK.out⟩
        · obtain ⟨w38, R2, hw38, hR2, hRl2, hb38, hq2⟩ := box_any w34 #[.map none] 57
          have hk38 := hk34.trans (hb38.mono hk34.size)
          have hrl2 : w2.heap.size ≤ R2 := by have := hk34.size; omega
          rw [if_pos (by kernel_rfl)]
          go_simp
          have hqne : R1 < R2 := by have := heap_lt hq1; omega
          have hq1 := keep_block hq1 hb38
          have hm1 := hm1.keep hb38
          refine hK.out _ _ ?_ (fun hHeld => ?_)
          · exact HSA.out _ hk38
          clear hK K
          (try simp only [Act.put, List.setIfInBounds_toArray, List.set_cons_zero, List.set_cons_succ])
          clear hw38
          refine wpAnyH_ready (rs := [3]) (by kernel_rfl) (by simp) ?_
          refine AllReadyH.cons (o := ⟨some 12, _, _, _, _, _⟩) rfl (fun K hK => ?_) AllReadyH.nil
          rw [if_pos (by kernel_rfl)]
          go_simp
          go_at_call 37; refine (HI2.out _ hk38).mono ?_; rintro e w39 ⟨mm2, rfl, hlo2, hm2, hb39⟩
          have hk39 := hk38.trans (hb39.mono hk38.size)
          have hmne : mm1 ≠ mm2 := by have := hm1.lt; omega
          have hq1 := keep_block hq1 hb39
          have hm1 := hm1.keep hb39
          have hq2 := keep_block hq2 hb39
          refine hK.out _ _ ?_ (fun hHeld => ?_)
          · exact HSA.out _ hk39
          clear hK K
          (try simp only [Act.put, List.setIfInBounds_toArray, List.set_cons_zero, List.set_cons_succ])
          refine wpAnyH_ready (rs := [6]) (by kernel_rfl) (by simp) ?_
          refine AllReadyH.cons (o := ⟨none, _, _, _, _, _⟩) rfl (fun K hK => ?_) AllReadyH.nil
          have HK := Lib.hid (query_end hmne hm1 hm2 hq1 hq2 (by omega) hrl1 hrl2 hk39)
          have d1 := one_head hq1
          have z1 := box_frozen hq1
          clear hm1 hm2 hq1 hq2
          rw [if_pos (by kernel_rfl)]
          go_simp
          refine hK.out _ _ ?_ (fun hHeld => ?_)
          · exact HSA.out _ HK.out.mid
          clear hK K
          (try simp only [Act.put, List.setIfInBounds_toArray, List.set_cons_zero, List.set_cons_succ])
          refine wpAnyH_ready (rs := [7]) (by kernel_rfl) (by simp) ?_
          refine AllReadyH.cons (o := ⟨none, _, _, _, _, _⟩) rfl (fun K hK => ?_) AllReadyH.nil
          have d2 := HK.out.c2
          have z2 := HK.out.z2
          rw [if_pos (by kernel_rfl)]
          go_simp
          refine hK.out _ _ ?_ (fun hHeld => ?_)
          · exact HSA.out _ HK.out.below
          clear hK K
          (try simp only [Act.put, List.setIfInBounds_toArray, List.set_cons_zero, List.set_cons_succ])
          refine wpAnyH_done (by kernel_rfl) ?_ _
          go_wp2_with fail
          go_meet
          exact ⟨R1, R2, mm1, mm2, rfl, rfl, _, HK.out⟩
      · obtain ⟨w41, R2, hw41, hR2, hRl2, hb41, hq2⟩ := box_any w33 #[.map none] 57
        have hk41 := hk33.trans (hb41.mono hk33.size)
        have hrl2 : w2.heap.size ≤ R2 := by have := hk33.size; omega
        rw [if_pos (by kernel_rfl)]
        go_simp
        have hqne : R1 < R2 := by have := heap_lt hq1; omega
        have hq1 := keep_block hq1 hb41
        refine hK.out _ _ ?_ (fun hHeld => ?_)
        · exact HSA.out _ hk41
        clear hK K
        (try simp only [Act.put, List.setIfInBounds_toArray, List.set_cons_zero, List.set_cons_succ])
        clear hw41
        refine wpAnyH_ready (rs := [1]) (by kernel_rfl) (by simp) ?_
        refine AllReadyH.cons (o := ⟨some 10, _, _, _, _, _⟩) rfl (fun K hK => ?_) AllReadyH.nil
        rw [if_pos (by kernel_rfl)]
        go_simp
        go_at_call 37; refine (HI1.out _ hk41).mono ?_; rintro e w42 ⟨mm1, rfl, hlo1, hm1, hb42⟩
        have hk42 := hk41.trans (hb42.mono hk41.size)
        have hq1 := keep_block hq1 hb42
        have hq2 := keep_block hq2 hb42
        refine hK.out _ _ ?_ (fun hHeld => ?_)
        · exact HSA.out _ hk42
        clear hK K
        (try simp only [Act.put, List.setIfInBounds_toArray, List.set_cons_zero, List.set_cons_succ])
        refine wpAnyH_ready (rs := [3]) (by kernel_rfl) (by simp) ?_
        refine AllReadyH.cons (o := ⟨some 12, _, _, _, _, _⟩) rfl (fun K hK => ?_) AllReadyH.nil
        rw [if_pos (by kernel_rfl)]
        go_simp
        go_at_call 37; refine (HI2.out _ hk42).mono ?_; rintro e w43 ⟨mm2, rfl, hlo2, hm2, hb43⟩
        have hk43 := hk42.trans (hb43.mono hk42.size)
        have hmne : mm1 ≠ mm2 := by have := hm1.lt; omega
        have hq1 := keep_block hq1 hb43
        have hq2 := keep_block hq2 hb43
        have hm1 := hm1.keep hb43
        refine hK.out _ _ ?_ (fun hHeld => ?_)
        · exact HSA.out _ hk43
        clear hK K
        (try simp only [Act.put, List.setIfInBounds_toArray, List.set_cons_zero, List.set_cons_succ])
        refine wpAnyH_ready (rs := [6]) (by kernel_rfl) (by simp) ?_
        refine AllReadyH.cons (o := ⟨none, _, _, _, _, _⟩) rfl (fun K hK => ?_) AllReadyH.nil
        have HK := Lib.hid (query_end hmne hm1 hm2 hq1 hq2 (by omega) hrl1 hrl2 hk43)
        have d1 := one_head hq1
        have z1 := box_frozen hq1
        clear hm1 hm2 hq1 hq2
        rw [if_pos (by kernel_rfl)]
        go_simp
        refine hK.out _ _ ?_ (fun hHeld => ?_)
        · exact HSA.out _ HK.out.mid
        clear hK K
        (try simp only [Act.put, List.setIfInBounds_toArray, List.set_cons_zero, List.set_cons_succ])
        refine wpAnyH_ready (rs := [7]) (by kernel_rfl) (by simp) ?_
        refine AllReadyH.cons (o := ⟨none, _, _, _, _, _⟩) rfl (fun K hK => ?_) AllReadyH.nil
        have d2 := HK.out.c2
        have z2 := HK.out.z2
        rw [if_pos (by kernel_rfl)]
        go_simp
        refine hK.out _ _ ?_ (fun hHeld => ?_)
        · exact HSA.out _ HK.out.below
        clear hK K
        (try simp only [Act.put, List.setIfInBounds_toArray, List.set_cons_zero, List.set_cons_succ])
        refine wpAnyH_done (by kernel_rfl) ?_ _
        go_wp2_with fail
        go_meet
        exact ⟨R1, R2, mm1, mm2, rfl, rfl, _, HK.out⟩
    · obtain ⟨w45, R2, hw45, hR2, hRl2, hb45, hq2⟩ := box_any w2.drew #[.map none] 57
      have hk45 := hkd.trans (hb45.mono hkd.size)
      have hrl2 : w2.heap.size ≤ R2 := by have := hkd.size; omega
      rw [if_pos (by kernel_rfl)]
      go_simp
      refine hK.out _ _ ?_ (fun hHeld => ?_)
      · exact HSA.out _ hk45
      clear hK K
      (try simp only [Act.put, List.setIfInBounds_toArray, List.set_cons_zero, List.set_cons_succ])
      clear hw45
      refine wpAnyH_ready (rs := [1, 4]) (by kernel_rfl) (by simp) ?_
      refine AllReadyH.cons (o := ⟨some 10, _, _, _, _, _⟩) rfl (fun K hK => ?_) (AllReadyH.cons (o := ⟨some 6, _, _, _, _, _⟩) rfl (fun K hK => ?_) AllReadyH.nil)
      · rw [if_pos (by kernel_rfl)]
        go_simp
        go_at_call 37; refine (HI1.out _ hk45).mono ?_; rintro e w46 ⟨mm1, rfl, hlo1, hm1, hb46⟩
        have hk46 := hk45.trans (hb46.mono hk45.size)
        have hq2 := keep_block hq2 hb46
        refine hK.out _ _ ?_ (fun hHeld => ?_)
        · exact HSA.out _ hk46
        clear hK K
        (try simp only [Act.put, List.setIfInBounds_toArray, List.set_cons_zero, List.set_cons_succ])
        refine wpAnyH_ready (rs := [3, 4]) (by kernel_rfl) (by simp) ?_
        refine AllReadyH.cons (o := ⟨some 12, _, _, _, _, _⟩) rfl (fun K hK => ?_) (AllReadyH.cons (o := ⟨some 6, _, _, _, _, _⟩) rfl (fun K hK => ?_) AllReadyH.nil)
        · rw [if_pos (by kernel_rfl)]
          go_simp
          go_at_call 37; refine (HI2.out _ hk46).mono ?_; rintro e w47 ⟨mm2, rfl, hlo2, hm2, hb47⟩
          have hk47 := hk46.trans (hb47.mono hk46.size)
          have hmne : mm1 ≠ mm2 := by have := hm1.lt; omega
          have hq2 := keep_block hq2 hb47
          have hm1 := hm1.keep hb47
          refine hK.out _ _ ?_ (fun hHeld => ?_)
          · exact HSA.out _ hk47
          clear hK K
          (try simp only [Act.put, List.setIfInBounds_toArray, List.set_cons_zero, List.set_cons_succ])
          refine wpAnyH_ready (rs := [4]) (by kernel_rfl) (by simp) ?_
          refine AllReadyH.cons (o := ⟨some 6, _, _, _, _, _⟩) rfl (fun K hK => ?_) AllReadyH.nil
          obtain ⟨w48, R1, hw48, hR1, hRl1, hb48, hq1⟩ := box_any w47 #[.map none] 57
          have hk48 := hk47.trans (hb48.mono hk47.size)
          have hrl1 : w2.heap.size ≤ R1 := by have := hk47.size; omega
          rw [if_pos (by kernel_rfl)]
          go_simp
          have hqne : R2 < R1 := by have := heap_lt hq2; omega
          have hq2 := keep_block hq2 hb48
          have hm1 := hm1.keep hb48
          have hm2 := hm2.keep hb48
          refine hK.out _ _ ?_ (fun hHeld => ?_)
          · exact HSA.out _ hk48
          clear hK K
          (try simp only [Act.put, List.setIfInBounds_toArray, List.set_cons_zero, List.set_cons_succ])
          clear hw48
          refine wpAnyH_ready (rs := [6]) (by kernel_rfl) (by simp) ?_
          refine AllReadyH.cons (o := ⟨none, _, _, _, _, _⟩) rfl (fun K hK => ?_) AllReadyH.nil
          have HK := Lib.hid (query_end hmne hm1 hm2 hq1 hq2 (by omega) hrl1 hrl2 hk48)
          have d1 := one_head hq1
          have z1 := box_frozen hq1
          clear hm1 hm2 hq1 hq2
          rw [if_pos (by kernel_rfl)]
          go_simp
          refine hK.out _ _ ?_ (fun hHeld => ?_)
          · exact HSA.out _ HK.out.mid
          clear hK K
          (try simp only [Act.put, List.setIfInBounds_toArray, List.set_cons_zero, List.set_cons_succ])
          refine wpAnyH_ready (rs := [7]) (by kernel_rfl) (by simp) ?_
          refine AllReadyH.cons (o := ⟨none, _, _, _, _, _⟩) rfl (fun K hK => ?_) AllReadyH.nil
          have d2 := HK.out.c2
          have z2 := HK.out.z2
          rw [if_pos (by kernel_rfl)]
          go_simp
          refine hK.out _ _ ?_ (fun hHeld => ?_)
          · exact HSA.out _ HK.out.below
          clear hK K
          (try simp only [Act.put, List.setIfInBounds_toArray, List.set_cons_zero, List.set_cons_succ])
          refine wpAnyH_done (by kernel_rfl) ?_ _
          go_wp2_with fail
          go_meet
          exact ⟨R1, R2, mm1, mm2, rfl, rfl, _, HK.out⟩
        · obtain ⟨w50, R1, hw50, hR1, hRl1, hb50, hq1⟩ := box_any w46 #[.map none] 57
          have hk50 := hk46.trans (hb50.mono hk46.size)
          have hrl1 : w2.heap.size ≤ R1 := by have := hk46.size; omega
          rw [if_pos (by kernel_rfl)]
          go_simp
          have hqne : R2 < R1 := by have := heap_lt hq2; omega
          have hq2 := keep_block hq2 hb50
          have hm1 := hm1.keep hb50
          refine hK.out _ _ ?_ (fun hHeld => ?_)
          · exact HSA.out _ hk50
          clear hK K
          (try simp only [Act.put, List.setIfInBounds_toArray, List.set_cons_zero, List.set_cons_succ])
          clear hw50
          refine wpAnyH_ready (rs := [3]) (by kernel_rfl) (by simp) ?_
          refine AllReadyH.cons (o := ⟨some 12, _, _, _, _, _⟩) rfl (fun K hK => ?_) AllReadyH.nil
          rw [if_pos (by kernel_rfl)]
          go_simp
          go_at_call 37; refine (HI2.out _ hk50).mono ?_; rintro e w51 ⟨mm2, rfl, hlo2, hm2, hb51⟩
          have hk51 := hk50.trans (hb51.mono hk50.size)
          have hmne : mm1 ≠ mm2 := by have := hm1.lt; omega
          have hq2 := keep_block hq2 hb51
          have hm1 := hm1.keep hb51
          have hq1 := keep_block hq1 hb51
          refine hK.out _ _ ?_ (fun hHeld => ?_)
          · exact HSA.out _ hk51
          clear hK K
          (try simp only [Act.put, List.setIfInBounds_toArray, List.set_cons_zero, List.set_cons_succ])
          refine wpAnyH_ready (rs := [6]) (by kernel_rfl) (by simp) ?_
          refine AllReadyH.cons (o := ⟨none, _, _, _, _, _⟩) rfl (fun K hK => ?_) AllReadyH.nil
          have HK := Lib.hid (query_end hmne hm1 hm2 hq1 hq2 (by omega) hrl1 hrl2 hk51)
          have d1 := one_head hq1
          have z1 := box_frozen hq1
          clear hm1 hm2 hq1 hq2
          rw [if_pos (by kernel_rfl)]
          go_simp
          refine hK.out _ _ ?_ (fun hHeld => ?_)
          · exact HSA.out _ HK.out.mid
          clear hK K
          (try simp only [Act.put, List.setIfInBounds_toArray, List.set_cons_zero, List.set_cons_succ])
          refine wpAnyH_ready (rs := [7]) (by kernel_rfl) (by simp) ?_
          refine AllReadyH.cons (o := ⟨none, _, _, _, _, _⟩) rfl (fun K hK => ?_) AllReadyH.nil
          have d2 := HK.out.c2
          have z2 := HK.out.z2
          rw [if_pos (by kernel_rfl)]
          go_simp
          refine hK.out _ _ ?_ (fun hHeld => ?_)
          · exact HSA.out _ HK.out.below
          clear hK K
          (try simp only [Act.put, List.setIfInBounds_toArray, List.set_cons_zero, List.set_cons_succ])
          refine wpAnyH_done (by kernel_rfl) ?_ _
          go_wp2_with fail
          go_meet
          exact ⟨R1, R2, mm1, mm2, rfl, rfl, _, HK.out⟩
      · obtain ⟨w53, R1, hw53, hR1, hRl1, hb53, hq1⟩ := box_any w45 #[.map none] 57
        have hk53 := hk45.trans (hb53.mono hk45.size)
        have hrl1 : w2.heap.size ≤ R1 := by have := hk45.size; omega
        rw [if_pos (by kernel_rfl)]
        go_simp
        have hqne : R2 < R1 := by have := heap_lt hq2; omega
        have hq2 := keep_block hq2 hb53
        refine hK.out _ _ ?_ (fun hHeld => ?_)
        · exact HSA.out _ hk53
        clear hK K
        (try simp only [Act.put, List.setIfInBounds_toArray, List.set_cons_zero, List.set_cons_succ])
        clear hw53
        refine wpAnyH_ready (rs := [1]) (by kernel_rfl) (by simp) ?_
        refine AllReadyH.cons (o := ⟨some 10, _, _, _, _, _⟩) rfl (fun K hK => ?_) AllReadyH.nil
        rw [if_pos (by kernel_rfl)]
        go_simp
        go_at_call 37; refine (HI1.out _ hk53).mono ?_; rintro e w54 ⟨mm1, rfl, hlo1, hm1, hb54⟩
        have hk54 := hk53.trans (hb54.mono hk53.size)
        have hq2 := keep_block hq2 hb54
        have hq1 := keep_block hq1 hb54
        refine hK.out _ _ ?_ (fun hHeld => ?_)
        · exact HSA.out _ hk54
        clear hK K
        (try simp only [Act.put, List.setIfInBounds_toArray, List.set_cons_zero, List.set_cons_succ])
        refine wpAnyH_ready (rs := [3]) (by kernel_rfl) (by simp) ?_
        refine AllReadyH.cons (o := ⟨some 12, _, _, _, _, _⟩) rfl (fun K hK => ?_) AllReadyH.nil
        rw [if_pos (by kernel_rfl)]
        go_simp
        go_at_call 37; refine (HI2.out _ hk54).mono ?_; rintro e w55 ⟨mm2, rfl, hlo2, hm2, hb55⟩
        have hk55 := hk54.trans (hb55.mono hk54.size)
        have hmne : mm1 ≠ mm2 := by have := hm1.lt; omega
        have hq2 := keep_block hq2 hb55
        have hq1 := keep_block hq1 hb55
        have hm1 := hm1.keep hb55
        refine hK.out _ _ ?_ (fun hHeld => ?_)
        · exact HSA.out _ hk55
        clear hK K
        (try simp only [Act.put, List.setIfInBounds_toArray, List.set_cons_zero, List.set_cons_succ])
        refine wpAnyH_ready (rs := [6]) (by kernel_rfl) (by simp) ?_
        refine AllReadyH.cons (o := ⟨none, _, _, _, _, _⟩) rfl (fun K hK => ?_) AllReadyH.nil
        have HK := Lib.hid (query_end hmne hm1 hm2 hq1 hq2 (by omega) hrl1 hrl2 hk55)
        have d1 := one_head hq1
        have z1 := box_frozen hq1
        clear hm1 hm2 hq1 hq2
        rw [if_pos (by kernel_rfl)]
        go_simp
        refine hK.out _ _ ?_ (fun hHeld => ?_)
        · exact HSA.out _ HK.out.mid
        clear hK K
        (try simp only [Act.put, List.setIfInBounds_toArray, List.set_cons_zero, List.set_cons_succ])
        refine wpAnyH_ready (rs := [7]) (by kernel_rfl) (by simp) ?_
        refine AllReadyH.cons (o := ⟨none, _, _, _, _, _⟩) rfl (fun K hK => ?_) AllReadyH.nil
        have d2 := HK.out.c2
        have z2 := HK.out.z2
        rw [if_pos (by kernel_rfl)]
        go_simp
        refine hK.out _ _ ?_ (fun hHeld => ?_)
        · exact HSA.out _ HK.out.below
        clear hK K
        (try simp only [Act.put, List.setIfInBounds_toArray, List.set_cons_zero, List.set_cons_succ])
        refine wpAnyH_done (by kernel_rfl) ?_ _
        go_wp2_with fail
        go_meet
        exact ⟨R1, R2, mm1, mm2, rfl, rfl, _, HK.out⟩
  case rest =>
    obtain ⟨R1, R2, mm1, mm2, rfl, rfl, Wm, hst⟩ := hcut
    have HST := Lib.hid hst
    have q1 := hst.q1
    have q2 := hst.q2
    have HCL := Lib.hid (mapClone_any mm1 na FA wc hst.a)
    clear hst
    go_wp2_with fail
    refine HCL.out.mono ?_
    rintro e w5 ⟨rfl, hm5, hb5⟩
    obtain ⟨mc, hmc⟩ : ∃ mc, wc.heap.size = mc := ⟨_, rfl⟩
    rw [hmc] at hm5 ⊢
    have HB5 := Lib.hid hb5
    have q2 := (hb5.cell (p := ⟨R2, 0, none⟩) HST.out.l2).trans q2
    have HM5 := Lib.hid hm5
    have HMN : Hid (mc ≠ mm2) := Lib.hid (by have := HST.out.b.lt; omega)
    have HCP := Lib.hid (mapCopy_any mc mm2 na nb FA FB w5 hm5 (HST.out.b.keep hb5) HMN.out (by omega))
    clear hm5 hb5 q1
    go_wp2_with fail
    refine HCP.out.mono ?_
    rintro e w6 ⟨rfl, hm6, hg6⟩
    have HB6 : Hid (Below wc.heap.size wc w6) := Lib.hid (below_map22 HB5.out (by omega) hg6 HB5.out.size)
    have HRI := Lib.hid (rising_any mc (na + nb) (orF FA FB) w6 hm6 (by omega))
    clear hm6 hg6 q2
    go_wp2_with fail
    refine HRI.out.mono ?_
    rintro e w7 ⟨v7, xs, rfl, hup, hin, hbd, hlen, hint, _, hb7⟩
    have HB7 : Hid (Below wc.heap.size wc w7) := Lib.hid (HB6.out.trans (hb7.mono HB6.out.size))
    have HUP := Lib.hid hup
    have HIN := Lib.hid hin
    have HBD := Lib.hid hbd
    have HLEN := Lib.hid hlen
    have HINT := Lib.hid hint
    clear hup hin hbd hlen hint hb7
    go_wp2_with fail
    go_ret2
    refine ⟨v7, _, xs, rfl, ⟨HUP.out, fun u => ?_, HBD.out⟩, HLEN.out, HINT.out, AskAt.keep (W := wc) ⟨R1, R2, mm1, mm2, na, nb, rfl, HST.out.a, HST.out.b, HST.out.q1, HST.out.q2, HST.out.l1, HST.out.l2⟩ HB7.out, ?_⟩
    · rw [HIN.out]
      unfold orF
      cases FA u <;> cases FB u <;> simp
    · exact HB2.out.trans (HST.out.below.mono HB2.out.size |>.trans (HB7.out.mono (Nat.le_trans HB2.out.size HST.out.below.size)))
end Go.Proofs.Ytincbilobmhgeaa
