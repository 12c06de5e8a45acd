/-
  The document's Drop.
  Conditions: the numbers are small.
-/
import Derived.Test.YtngfcgegondmgaaRefPick
set_option linter.unusedVariables false
set_option linter.unusedSimpArgs false
namespace Go.Proofs.Ytngfcgegondmgaa
open Go.RowKit

/-- The blocks of what was handed in, of the answer, and of the local that grows. -/
structure Three (W w : World) (N : Nat) (a b y z : Value) : Prop where
  box : w.heap[N]? = some (.cells #[a, b] 32 (0, 0))
  res : w.heap[N + 1]? = some (.cells #[.slice none 0 0, .slice none 0 0] 32 (0, 0))
  own : w.heap[N + 2]? = some (.cells #[y, z] 32 (0, 0))
  bel : Below W.heap.size W w
  n : W.heap.size = N
theorem three_new {W w : World} {N : Nat} {a b : Value} (h : Box W w N a b) (hs : w.heap.size = N + 2) : Three W (w.alloc (.cells #[.slice none 0 0, .slice none 0 0] 32)) N a b (.slice none 0 0) (.slice none 0 0) := by
  have hb := (Below.refl w.heap.size w).alloc (Nat.le_refl _) (.cells #[.slice none 0 0, .slice none 0 0] 32)
  exact ⟨keep_block h.box hb, keep_block h.res hb, alloc_block w _ hs, h.bel.trans (hb.mono h.bel.size), h.n⟩
theorem Three.lt {W w : World} {N : Nat} {a b y z : Value} (h : Three W w N a b y z) : N + 2 < w.heap.size := heap_lt h.own
theorem Three.keep {W w w' : World} {N : Nat} {a b y z : Value} (h : Three W w N a b y z) (hb : Below (N + 3) w w') : Three W w' N a b y z := by
  have hn := h.n
  exact ⟨(hb.block N (by omega)).trans h.box, (hb.block (N + 1) (by omega)).trans h.res, (hb.block (N + 2) (by omega)).trans h.own, h.bel.trans (hb.mono (by omega)), hn⟩
theorem Three.set0 {W w : World} {N : Nat} {a b y z : Value} (h : Three W w N a b y z) (x : Value) : Three W (w.setCell ⟨N + 2, 0, none⟩ x) N a b x z := by
  have hn := h.n
  exact ⟨(Below.heap_setCell _ _ _ _ (show N ≠ N + 2 by omega)).trans h.box, (Below.heap_setCell _ _ _ _ (show N + 1 ≠ N + 2 by omega)).trans h.res, heap_setCell_mem _ _ _ _ _ _ _ h.own, h.bel.setCell (p := ⟨N + 2, 0, none⟩) (by show _ ≤ N + 2; omega) _, hn⟩
theorem Three.set1 {W w : World} {N : Nat} {a b y z : Value} (h : Three W w N a b y z) (x : Value) : Three W (w.setCell ⟨N + 2, 1, none⟩ x) N a b y x := by
  have hn := h.n
  exact ⟨(Below.heap_setCell _ _ _ _ (show N ≠ N + 2 by omega)).trans h.box, (Below.heap_setCell _ _ _ _ (show N + 1 ≠ N + 2 by omega)).trans h.res, heap_setCell_mem _ _ _ _ _ _ _ h.own, h.bel.setCell (p := ⟨N + 2, 1, none⟩) (by show _ ≤ N + 2; omega) _, hn⟩
theorem Three.box_ {W w : World} {N : Nat} {a b y z : Value} (h : Three W w N a b y z) : Box W w N a b := ⟨h.box, h.res, h.bel, h.n⟩
/-- The rows that grow. -/
structure Grows (w : World) (N : Nat) (y z : Value) (l : List Lm) : Prop where
  ws : w.ownsRow (N + 3) 50 2 y l.length (spansCells (wantsT l))
  gs : w.ownsRow (N + 3) 3 1 z l.length (gC l)
theorem Grows.keep {w w' : World} {N : Nat} {y z : Value} {l : List Lm} (h : Grows w N y z l) (hb : Below w.heap.size w w') : Grows w' N y z l := ⟨own_below5 h.ws hb, own_below5 h.gs hb⟩
theorem Grows.own {w : World} {N : Nat} {y z : Value} {l : List Lm} (h : Grows w N y z l) : RefOwn w y z l := ⟨own_mono5 h.ws (Nat.zero_le _), own_mono5 h.gs (Nat.zero_le _)⟩
/-- A row in another row's world: what grew was of another kind. -/
theorem own_other {w w' : World} {b1 b2 e1 e2 s1 s2 n1 n2 : Nat} {v1 v2 : Value} {x1 x2 : List Value} (h : w.ownsRow b1 e1 s1 v1 n1 x1) (h2 : w.ownsRow b2 e2 s2 v2 n2 x2) (hg : w.grownBy w' v2.ownBlock) (he : e1 ≠ e2) : w'.ownsRow b1 e1 s1 v1 n1 x1 := by
  refine own_keep h fun k hk => hg.block k (own_lt h hk) fun e => ?_
  rcases h2.2 with ⟨h3, _⟩ | ⟨g, cap, cur, h3, _, hh, _⟩
  · subst h3; cases e
  · subst h3
    have e' : k = g := by first | exact Option.some.inj e | exact (Option.some.inj e).symm
    subst e'
    exact own_ne h hh he hk
theorem drop_skip {l : List Lm} {i : Nat} {m : Lm} {u : Int} (hi : l[i]? = some m) (h : (m.u : Int) = u) : dropT u (l.take (i + 1)) = dropT u (l.take i) := by
  unfold dropT
  rw [take_succ_of hi, List.filter_append]
  simp [h]
theorem drop_take {l : List Lm} {i : Nat} {m : Lm} {u : Int} (hi : l[i]? = some m) (h : (m.u : Int) ≠ u) : dropT u (l.take (i + 1)) = dropT u (l.take i) ++ [m] := by
  unfold dropT
  rw [take_succ_of hi, List.filter_append]
  simp [h]
theorem wantsT_snoc (l : List Lm) (m : Lm) : spansCells (wantsT (l ++ [m])) = spansCells (wantsT l) ++ [.int .i64 m.u, .int .i64 m.s] := by
  unfold wantsT
  rw [List.map_append]
  exact spansCells_snoc _ _
theorem gC_snoc (l : List Lm) (m : Lm) : gC (l ++ [m]) = gC l ++ [.int .i64 m.g] := by unfold gC; rw [List.map_append]; rfl
theorem drop_len (u : Int) (l : List Lm) : (dropT u l).length ≤ l.length := List.length_filter_le _ _

set_option maxRecDepth 100000 in
set_option maxHeartbeats 4000000 in
theorem refDrop_any {G : Nat} (W : World) (vL vG : Value) (l : List Lm) (u : Int) (h : RefOwn W vL vG l) (ho : OkL G l) :
    Calls Try.prog 16 #[.agg #[vL, vG], .int .i64 u] W (RefPostE W (dropT u l) (.bool (findT u l).isSome)) := by
  have HR := Lib.hid h
  have hlen := ho.len
  obtain ⟨A, c, hvL⟩ := own_form h.ws
  obtain ⟨B, d, hvG⟩ := own_form h.gs
  subst hvL hvG
  obtain ⟨n, hn⟩ : ∃ n, l.length = n := ⟨_, rfl⟩
  have HN := Lib.hid hn
  obtain ⟨N, hN⟩ : ∃ N, W.heap.size = N := ⟨_, rfl⟩
  obtain ⟨w2, hw2⟩ : ∃ w2, (W.alloc (.cells #[.slice A l.length c, .slice B l.length d] 32)).alloc (.cells #[.slice none 0 0, .slice none 0 0] 32) = w2 := ⟨_, rfl⟩
  have hs2 : w2.heap.size = N + 2 := by rw [← hw2]; simp [hN]
  have hx : Box W w2 N (.slice A l.length c) (.slice B l.length d) := by rw [← hw2, ← hN]; exact box_new W _ _
  have h3 := three_new hx hs2
  obtain ⟨wa, hwa⟩ : ∃ wa, w2.alloc (.cells #[.slice none 0 0, .slice none 0 0] 32) = wa := ⟨_, rfl⟩
  rw [hwa] at h3
  obtain ⟨s0, s1, s2, s3⟩ := two_heads h3.own
  have h4 := (h3.set0 (.slice none 0 0)).set1 (.slice none 0 0)
  obtain ⟨w3, hw3⟩ : ∃ w3, (wa.setCell ⟨N + 2, 0, none⟩ (.slice none 0 0)).setCell ⟨N + 2, 1, none⟩ (.slice none 0 0) = w3 := ⟨_, rfl⟩
  rw [hw3] at h4
  have HT3 := Lib.hid h4
  have HE : Hid (decide ((dropT u l).length < n) = (findT u l).isSome) := by
    show _ = _
    cases hf : findT u l with
    | none => rw [drop_none hf, hn]; simp
    | some k =>
      obtain ⟨m, hm, _⟩ := find_some hf
      have hk := (List.getElem?_eq_some_iff.1 hm).1
      rw [drop_some ho.rise hf, List.length_eraseIdx, if_pos hk]
      show decide _ = true
      exact decide_eq_true (by omega)
  rw [hn] at HR HT3 hw2 hlen ⊢
  have HG3 : Hid (Grows w3 N (.slice none 0 0) (.slice none 0 0) (dropT u (l.take 0))) := by
    have e : dropT u (l.take 0) = [] := by simp [dropT]
    rw [e]
    exact ⟨World.ownsRow_nil _ _ _ _, World.ownsRow_nil _ _ _ _⟩
  obtain ⟨i0, hi, hz0, hz1, hz2⟩ := info_parts Try.infoInt
  obtain ⟨j0, hj, hy0, hy1, hy2⟩ := info_parts Try.infoSpan
  have mixed : Try.prog.follows .mixedOrders = true := by kernel_rfl
  clear h ho hn hx h3 h4
  go_enter Try.func16, Try.ntmps16
  go_wp2_with fail
  clear hw2 hw3 hwa hs2 s0 s1 s2 s3 hN
  go_loopg [7] n (fun gg s wr => ∃ (i : Nat) (y z : Value), i ≤ n ∧ gg = n - i ∧ s = .int .i64 i ∧ Three W wr N (.slice A n c) (.slice B n d) y z ∧ Grows wr N y z (dropT u (l.take i)))
  case atStart => exact ⟨0, _, _, Nat.zero_le _, by omega, rfl, HT3.out, HG3.out⟩
  case round =>
    obtain ⟨i, y, z, hin, hg, rfl, ht, hgr⟩ := hrel
    have HG := Lib.hid hg
    have HT := Lib.hid ht
    have HGR := Lib.hid hgr
    have HRR := Lib.hid (HR.out.below ht.bel)
    obtain ⟨r0, r1, _, _⟩ := two_heads ht.box
    obtain ⟨A1, c1, hy⟩ := own_form hgr.ws
    obtain ⟨B1, d1, hz⟩ := own_form hgr.gs
    have hle := drop_len u (l.take i)
    rw [List.length_take, HN.out] at hle
    subst hy hz
    clear hg ht hgr
    by_cases hlt : i < n
    · have hltz : (i : Int) < (n : Int) := by omega
      have hi0 : (0 : Int) ≤ (i : Int) := by omega
      obtain ⟨m, hm⟩ := ex_at (xs := l) (k := i) (by rw [HN.out]; exact hlt)
      obtain ⟨g, cap, hA, hgl, _, _, c0, c1'⟩ := rowW_at HRR.out.ws hm
      obtain ⟨g2, cap2, hA2, hgl2, _, _, c2, _⟩ := rowG_at HRR.out.gs hm
      injection hA with hA hA1 hA3; clear hA1 hA3
      injection hA2 with hA2 hA1 hA3; clear hA1 hA3
      subst hA hA2
      have HM := Lib.hid hm
      by_cases hu : (m.u : Int) = u
      · have hskip := drop_skip hm hu
        have hb : ((m.u : Int) != u) = false := by simp [hu]
        have HSK := Lib.hid hskip
        clear hskip hm
        obtain ⟨m1, m2, m3⟩ := m
        simp only at c0 c1' c2 hu hb
        go_wp2_with fail
        go_roundg (n - (i + 1))
        case measure => have := HG.out; omega
        case rel => exact ⟨i + 1, _, _, by omega, rfl, by go_num, HT.out, by rw [HSK.out]; exact HGR.out⟩
      · have htake := drop_take hm hu
        have hb : ((m.u : Int) != u) = true := by simp [hu]
        have HTK := Lib.hid htake
        obtain ⟨n1, hn1⟩ : ∃ n1, (dropT u (l.take i)).length = n1 := ⟨_, rfl⟩
        have HN1 := Lib.hid hn1
        rw [hn1] at HT hle
        obtain ⟨dl, hdl⟩ : ∃ dl, dropT u (l.take i) = dl := ⟨_, rfl⟩
        rw [hdl] at HTK HGR HN1 hn1
        rw [hn1] at HGR
        clear htake hm hu hn1 hdl
        obtain ⟨m1, m2, m3⟩ := m
        simp only at c0 c1' c2 hb
        have n64 : n1 ≤ 64 := by omega
        have hgN : g < N + 3 := by
          have := own_lt HR.out.ws (k := g) rfl
          have := HT.out.n
          omega
        have hg2N : g2 < N + 3 := by
          have := own_lt HR.out.gs (k := g2) rfl
          have := HT.out.n
          omega
        have HSZ : Hid (N + 3 ≤ wr.heap.size) := HT.out.lt
        have HCELL : Hid (∀ w', Below (N + 3) wr w' → w'.cell? ⟨N + 2, 0, none⟩ = some (.slice A1 n1 c1) ∧ w'.cell? ⟨N, 0, none⟩ = some (.slice (some ⟨g, 0, none⟩) n c) ∧ w'.cell? ⟨g, i * 2, none⟩ = some (.int .i64 m1) ∧ w'.cell? ⟨g, i * 2 + 1, none⟩ = some (.int .i64 m2)) := fun w' hb => by
          obtain ⟨t0, _⟩ := two_heads HT.out.own
          exact ⟨(hb.cell (p := ⟨N + 2, 0, none⟩) (by show N + 2 < N + 3; omega)).trans t0, (hb.cell (p := ⟨N, 0, none⟩) (by show N < N + 3; omega)).trans r0, (hb.cell (p := ⟨g, i * 2, none⟩) hgN).trans c0, (hb.cell (p := ⟨g, i * 2 + 1, none⟩) hgN).trans c1'⟩
        have HS0 := Lib.hid (HCELL.out wr.drew (below_drewN (Below.refl _ wr) 1))
        have HG2N := Lib.hid hg2N
        have hb9 : Below wr.heap.size wr (wr.alloc (Obj.cells #[.int .i64 m1, .int .i64 m2] 50)).drew := below_drewN ((Below.refl _ wr).alloc (Nat.le_refl _) _) 1
        obtain ⟨B9, hB9⟩ : ∃ B9, wr.heap.size = B9 := ⟨_, rfl⟩
        have HNW : Hid (∀ j u, [Value.int .i64 m1, .int .i64 m2][j]? = some u → (wr.alloc (Obj.cells #[.int .i64 m1, .int .i64 m2] 50)).drew.cell? ((⟨B9, 0, none⟩ : Addr).add j) = some u) := news_two wr B9 hB9 50 m1 m2
        obtain ⟨w9, hw9⟩ : ∃ w9, (wr.alloc (Obj.cells #[.int .i64 m1, .int .i64 m2] 50)).drew = w9 := ⟨_, rfl⟩
        rw [hw9] at HNW hb9
        have HB9 := Lib.hid hb9
        clear hb9 hgN hg2N
        go_wp2_with fail
        clear c0 c1' c2 r1 hgl hgl2
        refine wp_region_N (S1 := fun _ => True) (S2 := fun W_ => W_.cell? ⟨N + 2, 0, none⟩ = some (.slice A1 n1 c1) ∧ W_.cell? ⟨N, 0, none⟩ = some (.slice (some ⟨g, 0, none⟩) n c) ∧ W_.cell? ⟨g, i * 2, none⟩ = some (.int .i64 m1) ∧ W_.cell? ⟨g, i * 2 + 1, none⟩ = some (.int .i64 m2)) (N := fun i => i != 10) (by kernel_rfl) ?_
        change wpAnyN _ _ _ _ _ _ _ 11 (Array.replicate 11 false) _ _
        refine wpAnyN_take false (i := 0) (v := .pointer (some ⟨N + 2, 0, none⟩)) rfl (by kernel_rfl) (by kernel_rfl) (by kernel_rfl) (fun _ _ _ h => h) (.inl ⟨by kernel_rfl, fun W_ hS => ?_⟩) ⟨trivial, fun h => by cases h⟩ ?_
        · simp [execOp, Act.eval, go_sem]
        refine wpAnyN_take true (i := 1) (v := .slice A1 n1 c1) rfl (by kernel_rfl) (by kernel_rfl) (by kernel_rfl) (fun _ _ _ h => h) (.inl ⟨by kernel_rfl, fun W_ hS => ?_⟩) ⟨trivial, fun _ => HS0.out⟩ ?_
        · simp [execOp, Act.eval, Act.put, go_sem, (hS.2 rfl).1]
        refine wpAnyN_take false (i := 2) (v := .pointer (some ⟨N, 0, none⟩)) rfl (by kernel_rfl) (by kernel_rfl) (by kernel_rfl) (fun _ _ _ h => h) (.inl ⟨by kernel_rfl, fun W_ hS => ?_⟩) ⟨trivial, fun h => by cases h⟩ ?_
        · simp [execOp, Act.eval, Act.put, go_sem]
        simp only [Act.put]
        go_simp
        refine wpAnyN_take true (i := 3) (v := .slice (some ⟨g, 0, none⟩) n c) rfl (by kernel_rfl) (by kernel_rfl) (by kernel_rfl) (fun _ _ _ h => h) (.inl ⟨by kernel_rfl, fun W_ hS => ?_⟩) ⟨trivial, fun _ => HS0.out⟩ ?_
        · simp [execOp, Act.eval, go_sem, (hS.2 rfl).2.1]
        refine wpAnyN_take false (i := 4) (v := .int .i64 i) rfl (by kernel_rfl) (by kernel_rfl) (by kernel_rfl) (fun _ _ _ h => h) (.inl ⟨by kernel_rfl, fun W_ hS => ?_⟩) ⟨trivial, fun h => by cases h⟩ ?_
        · simp [execOp, Act.eval, Act.put, go_sem]
        refine wpAnyN_take false (i := 5) (v := .pointer (some ⟨g, i * 2, none⟩)) rfl (by kernel_rfl) (by kernel_rfl) (by kernel_rfl) (fun _ _ _ h => h) (.inl ⟨by kernel_rfl, fun W_ hS => ?_⟩) ⟨trivial, fun h => by cases h⟩ ?_
        · simp [execOp, Act.eval, Act.put, go_sem, hltz, hi0]
        simp only [Act.put]
        go_simp
        refine wpAnyN_take true (i := 6) (v := .agg #[.int .i64 m1, .int .i64 m2]) rfl (by kernel_rfl) (by kernel_rfl) (by kernel_rfl) (fun _ _ _ h => h) (.inl ⟨by kernel_rfl, fun W_ hS => ?_⟩) ⟨trivial, fun _ => HS0.out⟩ ?_
        · simp [execOp, Act.eval, go_sem, (hS.2 rfl).2.2.1, (hS.2 rfl).2.2.2]
        simp only [Act.put]
        go_simp
        refine wpAnyN_step (i := 7) (by kernel_rfl) rfl (by kernel_rfl) ?_
        intro K' hK
        try simp only [Act.put]
        go_simp
        clear hw9 hB9
        have HS9 : Hid (N + 3 ≤ w9.heap.size) := Nat.le_trans HSZ.out HB9.out.size
        have HB9N : Hid (Below (N + 3) wr w9) := HB9.out.mono HSZ.out
        have HT9 := Lib.hid (HT.out.keep HB9N.out)
        have HO9 := Lib.hid (own_below5 HGR.out.ws HB9.out)
        have HP9 := Lib.hid (own_below5 HGR.out.gs HB9.out)
        rw [HN1.out] at HO9 HP9
        have HE2 : Hid (∀ u ∈ [Value.int .i64 m1, .int .i64 m2], u.oneCell' = true) := fun u hu => by simp at hu; rcases hu with rfl | rfl <;> rfl
        have HM2 : Hid (n1 + 1 ≤ maxLen) := by show _ ≤ _; unfold maxLen; omega
        have HY2 : Hid ((n1 + 1) * 16 ≤ 140737488355328) := by show _ ≤ _; omega
        refine hK.out _ _ trivial (fun _ _ => HCELL.out _ HB9N.out) ?_
        refine wpAnyN_step (i := 8) (by kernel_rfl) rfl (by kernel_rfl) ?_
        intro K' hK
        try simp only [Act.put]
        refine wp_append_own _ _ _ 22 rfl (N + 3) 50 j0 (.agg #[.int .i64 0, .int .i64 0]) 2 16 Try.underlying22 hj hy0 hy1 hy2 rfl (by decide) _ n1 (spansCells (wantsT dl)) rfl HO9.out ⟨B9, 0, none⟩ 1 1 [.int .i64 m1, .int .i64 m2] rfl rfl HNW.out HE2.out HM2.out HY2.out HS9.out ?_
        intro v10 w10 hown10 hgrow10 _
        have hb10 : Below (N + 3) w9 w10 := below_grown5 hgrow10 HS9.out (own_base5 HO9.out)
        have HO10 := Lib.hid hown10
        have HP10 := Lib.hid (own_other HP9.out HO9.out hgrow10 (by decide))
        have HT10 := Lib.hid (HT9.out.keep hb10)
        have HB10N : Hid (Below (N + 3) wr w10) := HB9N.out.trans hb10
        refine hK.out _ _ trivial (fun _ _ => HCELL.out _ HB10N.out) ?_
        clear hown10 hgrow10 hb10
        refine wpAnyN_take false (i := 9) (v := .pointer (some ⟨N + 2, 0, none⟩)) rfl (by kernel_rfl) (by kernel_rfl) (by kernel_rfl) (fun _ _ _ h => h) (.inl ⟨by kernel_rfl, fun W_ hS => ?_⟩) ⟨trivial, fun h => by cases h⟩ ?_
        · simp [execOp, Act.eval, go_sem]
        obtain ⟨t0, t1, t2, t3⟩ := two_heads HT10.out.own
        obtain ⟨A10, c10, hv10⟩ := own_form HO10.out
        subst hv10
        refine wpAnyN_step (i := 10) (by kernel_rfl) rfl (by kernel_rfl) ?_
        intro K' hK
        try simp only [Act.put]
        go_simp
        refine hK.out _ _ trivial (fun h => absurd h (by decide)) ?_
        refine wpAnyN_done (by kernel_rfl) ?_
        try simp only [Act.put]
        try go_simp
        clear t0 t1 t2 t3
        have HT11 := Lib.hid (HT10.out.set0 (.slice A10 (n1 + 1) c10))
        have HO11 : Hid ((w10.setCell ⟨N + 2, 0, none⟩ (.slice A10 (n1 + 1) c10)).ownsRow (N + 3) 50 2 (.slice A10 (n1 + 1) c10) (n1 + 1) (spansCells (wantsT dl) ++ [.int .i64 m1, .int .i64 m2])) := own_keep HO10.out fun k hk => Below.heap_setCell _ _ _ _ (show k ≠ N + 2 from fun e => own_ne HO10.out HT10.out.own (by decide) (by rw [← e]; exact hk))
        have HP11 : Hid ((w10.setCell ⟨N + 2, 0, none⟩ (.slice A10 (n1 + 1) c10)).ownsRow (N + 3) 3 1 (.slice B1 n1 d1) n1 (gC dl)) := own_keep HP10.out fun k hk => Below.heap_setCell _ _ _ _ (show k ≠ N + 2 from fun e => own_ne HP10.out HT10.out.own (by decide) (by rw [← e]; exact hk))
        obtain ⟨w11, hw11⟩ : ∃ w11, w10.setCell ⟨N + 2, 0, none⟩ (.slice A10 (n1 + 1) c10) = w11 := ⟨_, rfl⟩
        rw [hw11] at HT11 HO11 HP11
        rw [hw11]
        clear hw11
        obtain ⟨r0, r1, _, _⟩ := two_heads HT11.out.box
        obtain ⟨_, _, hA2, hgl2, _, _, c2, _⟩ := rowG_at (HR.out.below HT11.out.bel).gs HM.out
        injection hA2 with hA2 hA1 hA3; clear hA1 hA3
        injection hA2 with hA2; injection hA2 with hA2
        subst hA2
        have HSZ2 : Hid (N + 3 ≤ w11.heap.size) := HT11.out.lt
        have HCELL2 : Hid (∀ w', Below (N + 3) w11 w' → w'.cell? ⟨N + 2, 1, none⟩ = some (.slice B1 n1 d1) ∧ w'.cell? ⟨N, 1, none⟩ = some (.slice (some ⟨g2, 0, none⟩) n d) ∧ w'.cell? ⟨g2, i, none⟩ = some (.int .i64 m3)) := fun w' hb => by
          obtain ⟨_, t1, _⟩ := two_heads HT11.out.own
          exact ⟨(hb.cell (p := ⟨N + 2, 1, none⟩) (by show N + 2 < N + 3; omega)).trans t1, (hb.cell (p := ⟨N, 1, none⟩) (by show N < N + 3; omega)).trans r1, (hb.cell (p := ⟨g2, i, none⟩) HG2N.out).trans c2⟩
        have HS0 := Lib.hid (HCELL2.out w11.drew (below_drewN (Below.refl _ w11) 1))
        have hb9 : Below w11.heap.size w11 (w11.alloc (Obj.cells #[.int .i64 m3] 3)).drew := below_drewN ((Below.refl _ w11).alloc (Nat.le_refl _) _) 1
        obtain ⟨B12, hB12⟩ : ∃ B12, w11.heap.size = B12 := ⟨_, rfl⟩
        have HNW2 : Hid (∀ j u, [Value.int .i64 m3][j]? = some u → (w11.alloc (Obj.cells #[.int .i64 m3] 3)).drew.cell? ((⟨B12, 0, none⟩ : Addr).add j) = some u) := by
          rw [← hB12]
          exact World.news_of_block (heap_alloc_new w11 _)
        obtain ⟨w12, hw12⟩ : ∃ w12, (w11.alloc (Obj.cells #[.int .i64 m3] 3)).drew = w12 := ⟨_, rfl⟩
        rw [hw12] at HNW2 hb9
        have HB12 := Lib.hid hb9
        clear hb9
        go_wp2_with fail
        clear c2 r0 r1 hgl2
        refine wp_region_N (S1 := fun _ => True) (S2 := fun W_ => W_.cell? ⟨N + 2, 1, none⟩ = some (.slice B1 n1 d1) ∧ W_.cell? ⟨N, 1, none⟩ = some (.slice (some ⟨g2, 0, none⟩) n d) ∧ W_.cell? ⟨g2, i, none⟩ = some (.int .i64 m3)) (N := fun i => i != 10) (by kernel_rfl) ?_
        change wpAnyN _ _ _ _ _ _ _ 11 (Array.replicate 11 false) _ _
        refine wpAnyN_take false (i := 0) (v := .pointer (some ⟨N + 2, 1, none⟩)) rfl (by kernel_rfl) (by kernel_rfl) (by kernel_rfl) (fun _ _ _ h => h) (.inl ⟨by kernel_rfl, fun W_ hS => ?_⟩) ⟨trivial, fun h => by cases h⟩ ?_
        · simp [execOp, Act.eval, go_sem]
        refine wpAnyN_take true (i := 1) (v := .slice B1 n1 d1) rfl (by kernel_rfl) (by kernel_rfl) (by kernel_rfl) (fun _ _ _ h => h) (.inl ⟨by kernel_rfl, fun W_ hS => ?_⟩) ⟨trivial, fun _ => HS0.out⟩ ?_
        · simp [execOp, Act.eval, Act.put, go_sem, (hS.2 rfl).1]
        refine wpAnyN_take false (i := 2) (v := .pointer (some ⟨N, 1, none⟩)) rfl (by kernel_rfl) (by kernel_rfl) (by kernel_rfl) (fun _ _ _ h => h) (.inl ⟨by kernel_rfl, fun W_ hS => ?_⟩) ⟨trivial, fun h => by cases h⟩ ?_
        · simp [execOp, Act.eval, Act.put, go_sem]
        simp only [Act.put]
        go_simp
        refine wpAnyN_take true (i := 3) (v := .slice (some ⟨g2, 0, none⟩) n d) rfl (by kernel_rfl) (by kernel_rfl) (by kernel_rfl) (fun _ _ _ h => h) (.inl ⟨by kernel_rfl, fun W_ hS => ?_⟩) ⟨trivial, fun _ => HS0.out⟩ ?_
        · simp [execOp, Act.eval, go_sem, (hS.2 rfl).2.1]
        refine wpAnyN_take false (i := 4) (v := .int .i64 i) rfl (by kernel_rfl) (by kernel_rfl) (by kernel_rfl) (fun _ _ _ h => h) (.inl ⟨by kernel_rfl, fun W_ hS => ?_⟩) ⟨trivial, fun h => by cases h⟩ ?_
        · simp [execOp, Act.eval, Act.put, go_sem]
        refine wpAnyN_take false (i := 5) (v := .pointer (some ⟨g2, i, none⟩)) rfl (by kernel_rfl) (by kernel_rfl) (by kernel_rfl) (fun _ _ _ h => h) (.inl ⟨by kernel_rfl, fun W_ hS => ?_⟩) ⟨trivial, fun h => by cases h⟩ ?_
        · simp [execOp, Act.eval, Act.put, go_sem, hltz, hi0]
        simp only [Act.put]
        go_simp
        refine wpAnyN_take true (i := 6) (v := .int .i64 m3) rfl (by kernel_rfl) (by kernel_rfl) (by kernel_rfl) (fun _ _ _ h => h) (.inl ⟨by kernel_rfl, fun W_ hS => ?_⟩) ⟨trivial, fun _ => HS0.out⟩ ?_
        · simp [execOp, Act.eval, go_sem, (hS.2 rfl).2.2]
        simp only [Act.put]
        go_simp
        refine wpAnyN_step (i := 7) (by kernel_rfl) rfl (by kernel_rfl) ?_
        intro K' hK
        try simp only [Act.put]
        go_simp
        clear hw12 hB12
        have HS12 : Hid (N + 3 ≤ w12.heap.size) := Nat.le_trans HSZ2.out HB12.out.size
        have HB12N : Hid (Below (N + 3) w11 w12) := HB12.out.mono HSZ2.out
        have HT12 := Lib.hid (HT11.out.keep HB12N.out)
        have HO12 := Lib.hid (own_below5 HO11.out HB12.out)
        have HP12 := Lib.hid (own_below5 HP11.out HB12.out)
        have HE3 : Hid (∀ u ∈ [Value.int .i64 m3], u.oneCell' = true) := fun u hu => by simp at hu; rw [hu]; rfl
        have HY3 : Hid ((n1 + 1) * 8 ≤ 140737488355328) := by show _ ≤ _; omega
        refine hK.out _ _ trivial (fun _ _ => HCELL2.out _ HB12N.out) ?_
        refine wpAnyN_step (i := 8) (by kernel_rfl) rfl (by kernel_rfl) ?_
        intro K' hK
        try simp only [Act.put]
        refine wp_append_own _ _ _ 30 rfl (N + 3) 3 i0 (.int .i64 0) 1 8 Try.underlying30 hi hz0 hz1 hz2 rfl (by decide) _ n1 (gC dl) rfl HP12.out ⟨B12, 0, none⟩ 1 1 [.int .i64 m3] rfl rfl HNW2.out HE3.out HM2.out HY3.out HS12.out ?_
        intro v14 w14 hown14 hgrow14 _
        have hb14 : Below (N + 3) w12 w14 := below_grown5 hgrow14 HS12.out (own_base5 HP12.out)
        have HP14 := Lib.hid hown14
        have HO14 := Lib.hid (own_other HO12.out HP12.out hgrow14 (by decide))
        have HT14 := Lib.hid (HT12.out.keep hb14)
        have HB14N : Hid (Below (N + 3) w11 w14) := HB12N.out.trans hb14
        refine hK.out _ _ trivial (fun _ _ => HCELL2.out _ HB14N.out) ?_
        clear hown14 hgrow14 hb14
        refine wpAnyN_take false (i := 9) (v := .pointer (some ⟨N + 2, 1, none⟩)) rfl (by kernel_rfl) (by kernel_rfl) (by kernel_rfl) (fun _ _ _ h => h) (.inl ⟨by kernel_rfl, fun W_ hS => ?_⟩) ⟨trivial, fun h => by cases h⟩ ?_
        · simp [execOp, Act.eval, go_sem]
        obtain ⟨t0, t1, t2, t3⟩ := two_heads HT14.out.own
        obtain ⟨A14, c14, hv14⟩ := own_form HP14.out
        subst hv14
        refine wpAnyN_step (i := 10) (by kernel_rfl) rfl (by kernel_rfl) ?_
        intro K' hK
        try simp only [Act.put]
        go_simp
        refine hK.out _ _ trivial (fun h => absurd h (by decide)) ?_
        refine wpAnyN_done (by kernel_rfl) ?_
        try simp only [Act.put]
        try go_simp
        clear t0 t1 t2 t3
        have HT15 := Lib.hid (HT14.out.set1 (.slice A14 (n1 + 1) c14))
        have HGR15 : Hid (Grows (w14.setCell ⟨N + 2, 1, none⟩ (.slice A14 (n1 + 1) c14)) N (.slice A10 (n1 + 1) c10) (.slice A14 (n1 + 1) c14) (dropT u (l.take (i + 1)))) := by
          show Grows _ _ _ _ _
          rw [HTK.out]
          refine ⟨?_, ?_⟩
          · rw [wantsT_snoc, List.length_append, HN1.out]
            exact own_keep HO14.out fun k hk => Below.heap_setCell _ _ _ _ (show k ≠ N + 2 from fun e => own_ne HO14.out HT14.out.own (by decide) (by rw [← e]; exact hk))
          · rw [gC_snoc, List.length_append, HN1.out]
            exact own_keep HP14.out fun k hk => Below.heap_setCell _ _ _ _ (show k ≠ N + 2 from fun e => own_ne HP14.out HT14.out.own (by decide) (by rw [← e]; exact hk))
        obtain ⟨w15, hw15⟩ : ∃ w15, w14.setCell ⟨N + 2, 1, none⟩ (.slice A14 (n1 + 1) c14) = w15 := ⟨_, rfl⟩
        rw [hw15] at HT15 HGR15
        rw [hw15]
        clear hw15
        go_wp2_with fail
        go_roundg (n - (i + 1))
        case measure => have := HG.out; omega
        case rel => exact ⟨i + 1, _, _, by omega, rfl, by go_num, HT15.out, HGR15.out⟩
    · have hltz : ¬ (i : Int) < (n : Int) := by omega
      have hin' : i = n := by omega
      have etake : l.take i = l := List.take_of_length_le (by have := HN.out; omega)
      rw [etake] at HGR HT
      obtain ⟨nf, hnf⟩ : ∃ nf, (dropT u l).length = nf := ⟨_, rfl⟩
      obtain ⟨bb, hbb⟩ : ∃ bb, (findT u l).isSome = bb := ⟨_, rfl⟩
      have he := HE.out
      rw [hnf, hbb] at he
      have he2 : decide ((nf : Int) < (n : Int)) = bb := by
        rw [← he]
        by_cases h : nf < n
        · rw [decide_eq_true h, decide_eq_true (by omega)]
        · rw [decide_eq_false h, decide_eq_false (by omega)]
      rw [hnf] at HT HGR
      have HBB := Lib.hid hbb
      have HDN := Lib.hid (HT.out.box_.done HGR.out.own)
      obtain ⟨t0, t1, t2, t3⟩ := two_heads HT.out.own
      obtain ⟨o0, o1, o2, o3⟩ := two_heads HT.out.res
      have HB8 : Hid (∀ w', Below w'.heap.size w' w'.drew) := fun w' => below_drewN (Below.refl _ w') 1
      clear etake hnf hbb
      go_wp2_with fail
      go_region_held3 (fun w' => w'.cell? ⟨N + 2, 0, none⟩ = some (.slice A1 nf c1) ∧ w'.cell? ⟨N + 2, 1, none⟩ = some (.slice B1 nf d1) ∧ w'.cell? ⟨N, 0, none⟩ = some (.slice A n c)) (go_keep) (fail)
      go_wp2_with fail
      refine bodyPost_ret (v := .tuple #[.agg #[.slice A1 nf c1, .slice B1 nf d1], .bool bb]) (results_row_tmp rfl _ _ (N + 1) _ _ _ _ rfl (drew_heap HDN.out.1) Try.underlying32 rfl (Try.sizeRef _ _) _ rfl) rfl ?_
      exact ⟨_, _, by rw [HBB.out], HDN.out.2.1.below (HB8.out _), HDN.out.2.2.trans ((HB8.out _).mono HDN.out.2.2.size)⟩
end Go.Proofs.Ytngfcgegondmgaa
