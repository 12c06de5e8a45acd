/-
  Put of the document.
  Conditions: the slices read as places, as pieces; where the place belongs is told.
-/
import Derived.Test.YtkgkanmccaodfaaM07

/-
  Put of the document.
  Conditions: the slices read as places, as pieces; where the place belongs is told.
-/
set_option linter.unusedVariables false
set_option linter.unusedSimpArgs false
namespace Go.Proofs.Ytkgkanmccaodfaa
open Go.RowKit

/-- Where a unit's place belongs. -/
structure PutAt (d : List Pl) (u : Int) (k : Nat) : Prop where
  le : k ≤ d.length
  less : ∀ (j : Nat) (y : Pl), d[j]? = some y → (y.u < u ↔ j < k)
def putPl (d : List Pl) (x : Pl) (k : Nat) : List Pl := d.take k ++ [x] ++ d.drop k
theorem pcs_apart {W : World} {base e n : Nat} {F : Nat → Prop} {v : Value} {xs : List Value} (ho : W.ownsRow base e 4 v n xs) (hF : ∀ b, F b → b < base) {qs : List Rp} (h : AllPcs F W qs) : AllPcs (fun b => F b ∧ v.ownBlock ≠ some b) W qs := h.mono fun b _ hf => ⟨hf, fun e => by
  have h1 := own_base5 ho b e
  have h2 := hF b hf
  omega⟩
theorem pc_apart {W : World} {base e n : Nat} {F : Nat → Prop} {v u : Value} {xs : List Value} {ps : List Pc} (ho : W.ownsRow base e 4 v n xs) (hF : ∀ b, F b → b < base) (h : PcsIn F W u ps) : PcsIn (fun b => F b ∧ v.ownBlock ≠ some b) W u ps := h.mono fun b _ hf => ⟨hf, fun e => by
  have h1 := own_base5 ho b e
  have h2 := hF b hf
  omega⟩
theorem RowPl.more {W W' : World} {base : Nat} {F : Nat → Prop} {v v' : Value} {ls qs : List Rp} (h : RowPl W base F v ls) (hr : AllPcs (fun b => F b ∧ v.ownBlock ≠ some b) W qs)
    (ho : W'.ownsRow base 38 4 v' (ls.length + qs.length) (rowP ls ++ rowP qs)) (hg : W.grownBy W' v.ownBlock) (hat : v'.ownBlock = v.ownBlock ∨ v'.ownBlock = some W.heap.size) : RowPl W' base F v' (ls ++ qs) := by
  have hall : AllPcs (fun b => F b ∧ v.ownBlock ≠ some b) W (ls ++ qs) := fun r hr' => (List.mem_append.1 hr').elim (h.pcs r) (hr r)
  refine ⟨by rw [rowP_append, List.length_append]; exact ho, (hall.mono (G := fun b => b < W.heap.size ∧ F b ∧ v.ownBlock ≠ some b) fun b hb hF => ⟨hb, hF⟩).keepF hg.size (fun b hb hF => hg.block b hb fun e => hF.2.2 e.symm) |>.mono fun b _ hF => ⟨hF.2.1, fun e => ?_⟩⟩
  rcases hat with hat | hat
  · exact hF.2.2 (hat ▸ e)
  · rw [hat] at e
    have := Option.some.inj e
    omega
theorem plsR_append (a b : List Rp) : plsR (a ++ b) = plsR a ++ plsR b := by simp [plsR]
theorem plsR_take (a : List Rp) (k : Nat) : plsR (a.take k) = (plsR a).take k := by simp [plsR]
theorem plsR_drop (a : List Rp) (k : Nat) : plsR (a.drop k) = (plsR a).drop k := by simp [plsR]
theorem rowP_part {W : World} {b : Nat} {off : Nat} {ls : List Rp} (h : ∀ (i : Nat) (u : Value), (rowP ls)[i]? = some u → W.cell? ⟨b, off + i, none⟩ = some u) (k : Nat) :
    (∀ j u, (rowP (ls.take k))[j]? = some u → W.cell? ((⟨b, off, none⟩ : Addr).add j) = some u) ∧ ∀ j u, (rowP (ls.drop k))[j]? = some u → W.cell? ((⟨b, off + k * 4, none⟩ : Addr).add j) = some u := by
  constructor
  · intro j u hj
    rw [Addr.add_lit]
    rw [← rowP_take, List.getElem?_take] at hj
    split at hj
    · exact h _ _ hj
    · cases hj
  · intro j u hj
    rw [Addr.add_lit]
    rw [← rowP_drop, List.getElem?_drop] at hj
    rw [Nat.add_assoc]
    exact h _ _ hj

set_option maxRecDepth 100000 in
set_option maxHeartbeats 8000000 in
theorem refPut_any (G : Nat → Prop) (f : Int) (m : Nat) (v vx : Value) (l : List Pl) (x : Pl) (w : World) (h : PlsIn G w v l) (hx : PcsIn G w vx x.ps) (hl : l.length ≤ 1000) (kk : Nat) (hk : PutAt (dropT l x.u) x.u kk) :
    Calls Try.prog 19 #[planA f m v, plA vx x] w (RetPn (fun b => G b ∨ w.heap.size ≤ b) f m (putPl (dropT l x.u) x kk) w) := by
  obtain ⟨i0, hi, hz0, hz1, hz2⟩ := info_parts Try.infoPl
  have mixed : Try.prog.follows .mixedOrders = true := by kernel_rfl
  obtain ⟨B, dd, rfl⟩ := hx.form
  obtain ⟨w1, P, hw1, hP, hPl, hb1, hbox⟩ := box_any w #[.int .i64 f, .int .u32 m, v] 25
  obtain ⟨w2, X, hw2, hX, hXl, hb2, hxox⟩ := box_any w1 #[.int .i64 x.u, .int .i64 x.s, .int .i64 x.c, .slice B x.ps.length dd] 38
  obtain ⟨w3, R, hw3, hR, hRl, hb3, hrox⟩ := box_any w2 #[.int .i64 0, .int .u32 0, .slice none 0 0] 25
  have HB3 := Lib.hid ((hb1.trans (hb2.mono hb1.size)).trans (hb3.mono (Nat.le_trans hb1.size hb2.size)))
  have HPB := Lib.hid (keep_block (keep_block hbox hb2) hb3)
  have HXB := Lib.hid (keep_block hxox hb3)
  have HRB := Lib.hid hrox
  have HLT := Lib.hid (show w.heap.size ≤ P ∧ P < X ∧ X < R ∧ R < w3.heap.size by have := hb1.size; have := hb2.size; omega)
  have HXP := Lib.hid (hx.mono (G := fun b => b < w.heap.size ∧ G b) fun b hb hF => ⟨hb, hF⟩)
  have HD := Lib.hid (refDrop_any (fun b => b < w.heap.size ∧ G b) f m v l x.u w3 ((h.mono fun b hb hF => ⟨hb, hF⟩ : PlsIn (fun b => b < w.heap.size ∧ G b) w v l).keep HB3.out) hl)
  have hdl : (dropT l x.u).length ≤ 1000 := Nat.le_trans (drop_le _ _) hl
  obtain ⟨p0, p1, p2⟩ := three_heads HPB.out
  obtain ⟨x0, x1, x2, x3⟩ := four_heads HXB.out
  unfold planA at HD ⊢
  unfold plA
  have HK := Lib.hid hk
  unfold RetPs planA at HD
  generalize dropT l x.u = d at *
  obtain ⟨n, hn⟩ : ∃ n, d.length = n := ⟨_, rfl⟩
  rw [hn] at HD hdl
  have HN := Lib.hid hn
  have hkn : kk ≤ n := by have := hk.le; omega
  clear h hx hl hk hn hb1 hb2 hb3 hbox hxox hrox
  go_enter Try.func19, Try.ntmps19
  go_wp2_with fail
  refine HD.out.mono ?_
  rintro e w4 ⟨gb, go, gc, rfl, hpl, hb4⟩
  have HB4 := Lib.hid (HB3.out.trans (hb4.mono HB3.out.size))
  have HP4 := Lib.hid (keep_block HPB.out hb4)
  have HX4 := Lib.hid (keep_block HXB.out hb4)
  have HR4 := Lib.hid (keep_block HRB.out hb4)
  have hlt := HLT.out
  have hs4 := hb4.size
  have hsz4 := Lib.hid hs4
  obtain ⟨w5, hw5⟩ : ∃ w5, w4.setRow P #[.int .i64 f, .int .u32 m, .slice (some ⟨gb, go, none⟩) n gc] = w5 := ⟨_, rfl⟩
  have HS5 : Hid (w5.heap.size = w4.heap.size) := Lib.hid (by rw [← hw5]; simp)
  have HB5 : Hid (Below w.heap.size w w5) := Lib.hid (by rw [← hw5]; exact below_row HB4.out hlt.1 _)
  have HP5 : Hid (w5.heap[P]? = some (.cells #[.int .i64 f, .int .u32 m, .slice (some ⟨gb, go, none⟩) n gc] 25 (0, 0))) := Lib.hid (by rw [← hw5]; exact setRow_heap _ _ _ _ _ _ HP4.out)
  have HX5 : Hid (w5.heap[X]? = some (.cells #[.int .i64 x.u, .int .i64 x.s, .int .i64 x.c, .slice B x.ps.length dd] 38 (0, 0))) := Lib.hid (by rw [← hw5]; exact (setRow_other _ _ _ _ (by omega)).trans HX4.out)
  have HR5 : Hid (w5.heap[R]? = some (.cells #[.int .i64 0, .int .u32 0, .slice none 0 0] 25 (0, 0))) := Lib.hid (by rw [← hw5]; exact (setRow_other _ _ _ _ (by omega)).trans HR4.out)
  have HXP5 : Hid (PcsIn (fun b => b < w.heap.size ∧ G b) w5 (.slice B x.ps.length dd) x.ps) := Lib.hid (by
    rw [← hw5]
    exact (HXP.out.keep HB4.out).setRow (.inl fun h => by have := h.1; omega))
  have HPL5 : Hid (PlsIn (fun b => (b < w.heap.size ∧ G b) ∨ w3.heap.size ≤ b) w5 (.slice (some ⟨gb, go, none⟩) n gc) d) := Lib.hid (by
    rw [← hw5]
    exact hpl.setRow (.inl fun h => by rcases h with h | h <;> omega))
  clear hb4 hpl p0 p1 p2 x0 x1 x2 x3 hw1 hP hw2 hX hw3 hR hs4
  obtain ⟨p0, p1, p2⟩ := three_heads HP5.out
  go_wp2_with (refine wpList_store_row rfl _ _ _ rfl P #[.int .i64 f, .int .u32 m, .slice (some ⟨gb, go, none⟩) n gc] rfl rfl 25 _ HP4.out (Try.sizePn _ _ _) rfl (one3 _ _ _ _ _) ?_)
  clear p0 p1 p2
  go_loopg [5] n (fun gg s5 wr => ∃ q : Nat, q ≤ kk ∧ gg = n - q ∧ s5 = .int .i64 q ∧ Below w5.heap.size w5 wr)
  case atStart => exact ⟨0, Nat.zero_le _, by omega, rfl, Below.refl _ _⟩
  case round =>
    obtain ⟨q, hq, hg, rfl, hbw⟩ := hrel
    have HG := Lib.hid hg
    have HBW := Lib.hid hbw
    obtain ⟨p0, p1, p2⟩ := three_heads (keep_block HP5.out hbw)
    obtain ⟨x0, x1, x2, x3⟩ := four_heads (keep_block HX5.out hbw)
    have HPLW := Lib.hid (HPL5.out.keep hbw)
    clear hg hbw
    by_cases hqk : q < kk
    · have hqn : (q : Int) < (n : Int) := by omega
      have hq0 : (0 : Int) ≤ (q : Int) := by omega
      obtain ⟨y, hy⟩ := exP_at (xs := d) (k := q) (by rw [HN.out]; omega)
      obtain ⟨b, off, B', d', hA, hbl, _, ⟨c0, _, _, _⟩, _⟩ := HPLW.out.at_ hy
      injection hA with hA
      injection hA with e1 e2
      subst e1 e2
      simp only at c0
      have hlu := (HK.out.less q y hy).2 hqk
      go_wp2_with fail
      go_quiet (fail)
      go_wp2_with fail
      go_roundg (n - (q + 1))
      case measure => have := HG.out; omega
      case rel => exact ⟨q + 1, by omega, rfl, by go_num, below_drewN HBW.out _⟩
    · obtain rfl : q = kk := by omega
      have hq0 : (0 : Int) ≤ (q : Int) := by omega
      obtain ⟨ls, hls, hall, A', c', hA', hcells⟩ := pls_rows HPL5.out
      injection hA' with e1 e2 e3
      subst e1
      clear e2 e3
      have HMORE : Hid (∀ W, Below w5.heap.size w5 W → ∀ (i : Nat) (u : Value), (rowP ls)[i]? = some u → W.cell? ⟨gb, go + i, none⟩ = some u) := Lib.hid (fun W hb i u hu => by
        have hi : 0 < d.length := by
          have h1 := (List.getElem?_eq_some_iff.1 hu).1
          rw [rowP_length, ← plsR_length, hls] at h1
          omega
        obtain ⟨b, off, e, hbl, _, hc⟩ := hcells hi
        injection e with e
        injection e with e1 e2
        subst e1 e2
        exact (hb.cell (p := ⟨gb, go + i, none⟩) hbl).trans (hc i u hu))
      have HALL := Lib.hid (hall.mono (G := fun b => b < w5.heap.size ∧ ((b < w.heap.size ∧ G b) ∨ w3.heap.size ≤ b)) fun b hb hF => ⟨hb, hF⟩)
      have HLS := Lib.hid hls
      have hll : ls.length = n := by rw [← plsR_length, hls]; exact HN.out
      have hls1 : (ls.take q).length = q := by rw [List.length_take]; omega
      have hls2 : (ls.drop q).length = n - q := by rw [List.length_drop]; omega
      have hgc : n ≤ gc := by
        obtain ⟨_, _, e, h1, _⟩ := HPL5.out.form
        cases e
        have := HN.out
        omega
      have HXPA := Lib.hid (HXP5.out.mono (G := fun b => b < w5.heap.size ∧ ((b < w.heap.size ∧ G b) ∨ w3.heap.size ≤ b)) fun b hb hF => ⟨hb, .inl hF⟩)
      clear hcells hall hls
      by_cases hqn : q < n
      · have hqz : (q : Int) < (n : Int) := by omega
        obtain ⟨y, hy⟩ := exP_at (xs := d) (k := q) (by rw [HN.out]; omega)
        obtain ⟨b, off, B', d', hA, hbl, _, ⟨c0, _, _, _⟩, _⟩ := HPLW.out.at_ hy
        injection hA with hA
        injection hA with e1 e2
        subst e1 e2
        simp only at c0
        have hlu1 : ¬ y.u < x.u := fun e => hqk ((HK.out.less q y hy).1 e)
        have hlu2 : x.u ≤ y.u := by omega
        have hlu3 : decide (y.u < x.u) = false := decide_eq_false hlu1
        have hcap : (q : Int) ≤ (gc : Int) := by omega
        have hqn2 : (q : Int) ≤ (n : Int) := by omega
        go_wp2_with fail
        refine wp_region_held_drew (S := fun w' => w'.cell? ⟨P, 2, none⟩ = some (.slice (some ⟨gb, go, none⟩) n gc) ∧ w'.cell? ⟨X, 0, none⟩ = some (.int .i64 x.u) ∧ w'.cell? ⟨gb, go + q * 4, none⟩ = some (.int .i64 y.u)) (by kernel_rfl) ?_ (fun hHeld => ?_)
        · exact ⟨p2, x0, c0⟩
        refine wpAnyH_take (i := 0) (oi := ⟨some 11, _, _, _, _, _⟩) (v := ?_) rfl (by kernel_rfl) (by kernel_rfl) (by kernel_rfl) (fun _ _ _ h => h) (Or.inl ⟨by kernel_rfl, ?_⟩) (by assumption) ?_
        rotate_left
        · (intro w hSw; (try dsimp only at hSw); go_simp; try with_reducible rfl)
        (try simp only [Act.put, List.setIfInBounds_toArray, List.set_cons_zero, List.set_cons_succ])
        refine wpAnyH_take (i := 1) (oi := ⟨some 12, _, _, _, _, _⟩) (v := ?_) rfl (by kernel_rfl) (by kernel_rfl) (by kernel_rfl) (fun _ _ _ h => h) (Or.inl ⟨by kernel_rfl, ?_⟩) (by assumption) ?_
        rotate_left
        · (intro w hSw; (try dsimp only at hSw); go_simp; try with_reducible rfl)
        (try simp only [Act.put, List.setIfInBounds_toArray, List.set_cons_zero, List.set_cons_succ])
        refine wpAnyH_take (i := 2) (oi := ⟨some 13, _, _, _, _, _⟩) (v := ?_) rfl (by kernel_rfl) (by kernel_rfl) (by kernel_rfl) (fun _ _ _ h => h) (Or.inl ⟨by kernel_rfl, ?_⟩) (by assumption) ?_
        rotate_left
        · (intro w hSw; (try dsimp only at hSw); go_simp; try with_reducible rfl)
        (try simp only [Act.put, List.setIfInBounds_toArray, List.set_cons_zero, List.set_cons_succ])
        refine wpAnyH_take (i := 3) (oi := ⟨some 14, _, _, _, _, _⟩) (v := ?_) rfl (by kernel_rfl) (by kernel_rfl) (by kernel_rfl) (fun _ _ _ h => h) (Or.inl ⟨by kernel_rfl, ?_⟩) (by assumption) ?_
        rotate_left
        · (intro w hSw; (try dsimp only at hSw); go_simp; try with_reducible rfl)
        (try simp only [Act.put, List.setIfInBounds_toArray, List.set_cons_zero, List.set_cons_succ])
        refine wpAnyH_take (i := 4) (oi := ⟨some 15, _, _, _, _, _⟩) (v := ?_) rfl (by kernel_rfl) (by kernel_rfl) (by kernel_rfl) (fun _ _ _ h => h) (Or.inl ⟨by kernel_rfl, ?_⟩) (by assumption) ?_
        rotate_left
        · (intro w hSw; (try dsimp only at hSw); go_simp; try with_reducible rfl)
        (try simp only [Act.put, List.setIfInBounds_toArray, List.set_cons_zero, List.set_cons_succ])
        refine wpAnyH_take (i := 5) (oi := ⟨some 16, _, _, _, _, _⟩) (v := ?_) rfl (by kernel_rfl) (by kernel_rfl) (by kernel_rfl) (fun _ _ _ h => h) (Or.inl ⟨by kernel_rfl, ?_⟩) (by assumption) ?_
        rotate_left
        · (intro w hSw; (try dsimp only at hSw); go_simp; try with_reducible rfl)
        (try simp only [Act.put, List.setIfInBounds_toArray, List.set_cons_zero, List.set_cons_succ])
        refine wpAnyH_take (i := 6) (oi := ⟨some 17, _, _, _, _, _⟩) (v := ?_) rfl (by kernel_rfl) (by kernel_rfl) (by kernel_rfl) (fun _ _ _ h => h) (Or.inl ⟨by kernel_rfl, ?_⟩) (by assumption) ?_
        rotate_left
        · (intro w hSw; (try dsimp only at hSw); go_simp; try with_reducible rfl)
        (try simp only [Act.put, List.setIfInBounds_toArray, List.set_cons_zero, List.set_cons_succ])
        refine wpAnyH_take (i := 7) (oi := ⟨some 18, _, _, _, _, _⟩) (v := ?_) rfl (by kernel_rfl) (by kernel_rfl) (by kernel_rfl) (fun _ _ _ h => h) (Or.inl ⟨by kernel_rfl, ?_⟩) (by assumption) ?_
        rotate_left
        · (intro w hSw; (try dsimp only at hSw); go_simp; try with_reducible rfl)
        (try simp only [Act.put, List.setIfInBounds_toArray, List.set_cons_zero, List.set_cons_succ])
        refine wpAnyH_take (i := 8) (oi := ⟨some 19, _, _, _, _, _⟩) (v := ?_) rfl (by kernel_rfl) (by kernel_rfl) (by kernel_rfl) (fun _ _ _ h => h) (Or.inl ⟨by kernel_rfl, ?_⟩) (by assumption) ?_
        rotate_left
        · (intro w hSw; (try dsimp only at hSw); go_simp; try with_reducible rfl)
        (try simp only [Act.put, List.setIfInBounds_toArray, List.set_cons_zero, List.set_cons_succ])
        refine wpAnyH_take (i := 9) (oi := ⟨some 20, _, _, _, _, _⟩) (v := ?_) rfl (by kernel_rfl) (by kernel_rfl) (by kernel_rfl) (fun _ _ _ h => h) (Or.inl ⟨by kernel_rfl, ?_⟩) (by assumption) ?_
        rotate_left
        · (intro w hSw; (try dsimp only at hSw); go_simp; try with_reducible rfl)
        (try simp only [Act.put, List.setIfInBounds_toArray, List.set_cons_zero, List.set_cons_succ])
        refine wpAnyH_take (i := 10) (oi := ⟨some 21, _, _, _, _, _⟩) (v := ?_) rfl (by kernel_rfl) (by kernel_rfl) (by kernel_rfl) (fun _ _ _ h => h) (Or.inl ⟨by kernel_rfl, ?_⟩) (by assumption) ?_
        rotate_left
        · (intro w hSw; (try dsimp only at hSw); go_simp; try with_reducible rfl)
        (try simp only [Act.put, List.setIfInBounds_toArray, List.set_cons_zero, List.set_cons_succ])
        refine wpAnyH_take (i := 11) (oi := ⟨some 22, _, _, _, _, _⟩) (v := ?_) rfl (by kernel_rfl) (by kernel_rfl) (by kernel_rfl) (fun _ _ _ h => h) (Or.inl ⟨by kernel_rfl, ?_⟩) (by assumption) ?_
        rotate_left
        · (intro w hSw; (try dsimp only at hSw); go_simp; try with_reducible rfl)
        (try simp only [Act.put, List.setIfInBounds_toArray, List.set_cons_zero, List.set_cons_succ])
        refine wpAnyH_take (i := 12) (oi := ⟨some 23, _, _, _, _, _⟩) (v := ?_) rfl (by kernel_rfl) (by kernel_rfl) (by kernel_rfl) (fun _ _ _ h => h) (Or.inl ⟨by kernel_rfl, ?_⟩) (by assumption) ?_
        rotate_left
        · (intro w hSw; (try dsimp only at hSw); go_simp; try with_reducible rfl)
        (try simp only [Act.put, List.setIfInBounds_toArray, List.set_cons_zero, List.set_cons_succ])
        refine wpAnyH_take (i := 13) (oi := ⟨some 24, _, _, _, _, _⟩) (v := ?_) rfl (by kernel_rfl) (by kernel_rfl) (by kernel_rfl) (fun _ _ _ h => h) (Or.inl ⟨by kernel_rfl, ?_⟩) (by assumption) ?_
        rotate_left
        · (intro w hSw; (try dsimp only at hSw); go_simp; try with_reducible rfl)
        (try simp only [Act.put, List.setIfInBounds_toArray, List.set_cons_zero, List.set_cons_succ])
        refine wpAnyH_take (i := 14) (oi := ⟨some 25, _, _, _, _, _⟩) (v := ?_) rfl (by kernel_rfl) (by kernel_rfl) (by kernel_rfl) (fun _ _ _ h => h) (Or.inl ⟨by kernel_rfl, ?_⟩) (by assumption) ?_
        rotate_left
        · (intro w hSw; (try dsimp only at hSw); go_simp; try with_reducible rfl)
        (try simp only [Act.put, List.setIfInBounds_toArray, List.set_cons_zero, List.set_cons_succ])
        refine wpAnyH_take (i := 15) (oi := ⟨some 26, _, _, _, _, _⟩) (v := ?_) rfl (by kernel_rfl) (by kernel_rfl) (by kernel_rfl) (fun _ _ _ h => h) (Or.inl ⟨by kernel_rfl, ?_⟩) (by assumption) ?_
        rotate_left
        · (intro w hSw; (try dsimp only at hSw); go_simp; try with_reducible rfl)
        (try simp only [Act.put, List.setIfInBounds_toArray, List.set_cons_zero, List.set_cons_succ])
        refine wpAnyH_done (by kernel_rfl) ?_ _
        obtain ⟨wz, hwz⟩ : ∃ wz, wr.drew = wz := ⟨_, rfl⟩
        have HKZ : Hid (Below w5.heap.size w5 wz) := Lib.hid (by rw [← hwz]; exact HBW.out.drew)
        rw [hwz]
        clear hwz p0 p1 p2 x0 x1 x2 x3 c0
        obtain ⟨wa, E, hwa, hE, hEl, hba, heb⟩ := box_any wz #[] 38
        have HKA := Lib.hid (HKZ.out.trans (hba.mono HKZ.out.size))
        have HRA : Hid (RowPl wa w5.heap.size (fun b => b < w5.heap.size ∧ ((b < w.heap.size ∧ G b) ∨ w3.heap.size ≤ b)) (.slice (some ⟨E, 0, none⟩) 0 0) []) :=
          Lib.hid ⟨⟨rfl, .inr ⟨E, 0, #[], rfl, by have := HKZ.out.size; omega, heb, Nat.le_refl _, Nat.zero_le _, rfl, rfl⟩⟩, AllPcs.nil _ _⟩
        obtain ⟨p0, p1, p2⟩ := three_heads (keep_block HP5.out HKA.out)
        have hbsz := HKA.out.size
        clear hba heb
        go_wp2_with (at_builtin; refine wpList_append_own_at _ rfl _ _ 23 rfl w5.heap.size 38 i0 (.agg #[.int .i64 0, .int .i64 0, .int .i64 0, .slice none 0 0]) 4 48 Try.underlying23 hi hz0 hz1 hz2 rfl (by decide) (.slice (some ⟨E, 0, none⟩) 0 0) 0 [] rfl HRA.out.own ⟨gb, go, none⟩ q gc (rowP (ls.take q)) rfl ?c0 ?c1 ?c2 ?c3 ?c4 ?c5 ?_)
        case c0 => rw [rowP_length, hls1]
        case c1 => exact (rowP_part (HMORE.out wa HKA.out) q).1
        case c2 => exact rowP_one _
        case c3 => unfold maxLen; omega
        case c4 => omega
        case c5 => exact hbsz
        intro v7 w7 hown7 hgrow _ hat
        have HK7 := Lib.hid (HKA.out.trans (below_grown5 hgrow hbsz (own_base5 HRA.out.own)))
        have HR7 : Hid (RowPl w7 w5.heap.size (fun b => b < w5.heap.size ∧ ((b < w.heap.size ∧ G b) ∨ w3.heap.size ≤ b)) v7 (ls.take q)) := Lib.hid (HRA.out.more (qs := ls.take q) (pcs_apart HRA.out.own (fun b h => h.1) (fun r hr => (HALL.out r (List.mem_of_mem_take hr)).keep HKA.out)) (by have e : (([] : List Rp).length + q) = q := Nat.zero_add q; rw [hls1, e]; exact hown7) hgrow hat)
        have hsz7 := HK7.out.size
        clear hown7 hgrow hat p0 p1 p2 hbsz hwa hE
        obtain ⟨x0, x1, x2, x3⟩ := four_heads (keep_block HX5.out HK7.out)
        go_wp2_with (at_builtin; refine wpList_append_own_at _ rfl _ _ 23 rfl w5.heap.size 38 i0 (.agg #[.int .i64 0, .int .i64 0, .int .i64 0, .slice none 0 0]) 4 48 Try.underlying23 hi hz0 hz1 hz2 rfl (by decide) v7 _ (rowP (ls.take q)) rfl (HR7.out.own.alloc _) ⟨w7.heap.size, 0, none⟩ 1 1 (rpCells ((B, dd), x)) rfl ?d0 ?d1 ?d2 ?d3 ?d4 ?d5 ?_)
        case d0 => rfl
        case d1 => exact news_rp w7 _ ((B, dd), x)
        case d2 => exact rp_one _
        case d3 => unfold maxLen; omega
        case d4 => omega
        case d5 => simp; omega
        intro v8 w8 hown8 hgrow _ hat
        have hba := (Below.refl w7.heap.size w7).alloc (Nat.le_refl _) (.cells #[.int .i64 x.u, .int .i64 x.s, .int .i64 x.c, .slice B x.ps.length dd] 38)
        have HK8 := Lib.hid ((HK7.out.alloc hsz7 _).trans (below_grown5 hgrow (by simp; omega) (own_base5 HR7.out.own)))
        have HR8 : Hid (RowPl w8 w5.heap.size (fun b => b < w5.heap.size ∧ ((b < w.heap.size ∧ G b) ∨ w3.heap.size ≤ b)) v8 (ls.take q ++ [((B, dd), x)])) := Lib.hid ((HR7.out.keep hba).snoc (pc_apart (v := v7) (HR7.out.keep hba).own (fun b h => h.1) ((HXPA.out.keep HK7.out).keep hba)) (by rw [hls1]; exact hown8) hgrow (hat.imp id fun e => e.trans (by simp)))
        have hsz8 := HK8.out.size
        have hls3 : (ls.take q ++ [(((B, dd), x) : Rp)]).length = q + 1 := by rw [List.length_append, hls1]; rfl
        clear hown8 hgrow hat hba x0 x1 x2 x3
        obtain ⟨p0, p1, p2⟩ := three_heads (keep_block HP5.out HK8.out)
        go_wp2_with (at_builtin; refine wpList_append_own_at _ rfl _ _ 23 rfl w5.heap.size 38 i0 (.agg #[.int .i64 0, .int .i64 0, .int .i64 0, .slice none 0 0]) 4 48 Try.underlying23 hi hz0 hz1 hz2 rfl (by decide) v8 _ (rowP (ls.take q ++ [((B, dd), x)])) rfl HR8.out.own ⟨gb, go + q * 4, none⟩ (n - q) _ (rowP (ls.drop q)) rfl ?f0 ?f1 ?f2 ?f3 ?f4 ?f5 ?_)
        case f0 => rw [rowP_length, hls2]
        case f1 => exact (rowP_part (HMORE.out w8 HK8.out) q).2
        case f2 => exact rowP_one _
        case f3 => unfold maxLen; omega
        case f4 => omega
        case f5 => exact hsz8
        intro v9 w9 hown9 hgrow _ hat
        have HK9 := Lib.hid (HK8.out.trans (below_grown5 hgrow hsz8 (own_base5 HR8.out.own)))
        have HR9 : Hid (RowPl w9 w5.heap.size (fun b => b < w5.heap.size ∧ ((b < w.heap.size ∧ G b) ∨ w3.heap.size ≤ b)) v9 (ls.take q ++ [((B, dd), x)] ++ ls.drop q)) := Lib.hid (HR8.out.more (qs := ls.drop q) (pcs_apart HR8.out.own (fun b h => h.1) (fun r hr => (HALL.out r (List.mem_of_mem_drop hr)).keep HK8.out)) (by rw [hls3, hls2]; exact hown9) hgrow hat)
        have HEQ : Hid (plsR (ls.take q ++ [((B, dd), x)] ++ ls.drop q) = putPl d x q) := Lib.hid (by rw [plsR_append, plsR_append, plsR_take, plsR_drop, HLS.out]; rfl)
        clear hown9 hgrow hat p0 p1 p2
        obtain ⟨A5, c5, hv5⟩ := own_form HR9.out.own
        obtain ⟨N9, hN9⟩ : ∃ N9, (ls.take q ++ [(((B, dd), x) : Rp)] ++ ls.drop q).length = N9 := ⟨_, rfl⟩
        rw [hN9] at hv5
        subst hv5
        have HPN := Lib.hid (pls_of_own HR9.out.own (HR9.out.pcs.mono (G := (fun b => b < w5.heap.size ∧ ((b < w.heap.size ∧ G b) ∨ w3.heap.size ≤ b))) fun b _ hF => hF.1))
        rw [HEQ.out] at HPN
        have hlt4 := HLT.out
        have HPX := Lib.hid (keep_block HP5.out HK9.out)
        have HRX := Lib.hid (keep_block HR5.out HK9.out)
        have hsz5 := HS5.out
        have HP9 : Hid ((w9.setCell ⟨P, 2, none⟩ (.slice A5 N9 c5)).heap[P]? = some (.cells #[.int .i64 f, .int .u32 m, .slice A5 N9 c5] 25 (0, 0))) := heap_setCell_mem _ _ _ _ _ _ _ HPX.out
        have HR9' : Hid ((w9.setCell ⟨P, 2, none⟩ (.slice A5 N9 c5)).heap[R]? = some (.cells #[.int .i64 0, .int .u32 0, .slice none 0 0] 25 (0, 0))) := (Below.heap_setCell _ _ _ _ (show R ≠ P by omega)).trans HRX.out
        obtain ⟨g0, g1, g2⟩ := three_heads HP9.out
        obtain ⟨p0, p1, p2⟩ := three_heads HPX.out
        obtain ⟨fr⟩ : w9.frozen? ⟨P, 2, none⟩ = false ∧ True := ⟨by have e := HPX.out; simp [World.frozen?, e], trivial⟩
        have hs45 := hsz4.out
        go_wp2_with (refine wpList_store_row rfl _ _ _ rfl R #[.int .i64 f, .int .u32 m, .slice A5 N9 c5] rfl rfl 25 _ HR9'.out (Try.sizePn _ _ _) rfl (one3 _ _ _ _ _) ?_)
        refine bodyPost_ret (v := planA f m (.slice A5 N9 c5)) (results_cell_row rfl _ _ R _ _ _ _ rfl (setRow_heap _ _ _ _ _ _ HR9'.out) Try.underlying25 rfl (Try.sizePn _ _ _)) rfl ?_
        have hend := pn_end (w := w) (W := w9) (P := P) (R := R) (l := putPl d x q) (F := fun b => (b < w5.heap.size ∧ ((b < w.heap.size ∧ G b) ∨ w3.heap.size ≤ b)) ∨ w5.heap.size ≤ b) HPN.out (by omega) (by omega) (HB5.out.trans (HK9.out.mono HB5.out.size)) hlt4.1 (by omega) #[.int .i64 f, .int .u32 m, .slice A5 N9 c5]
        refine ⟨_, rfl, hend.1.mono fun b _ hb => ?_, hend.2⟩
        rcases hb with ⟨_, h | h⟩ | h
        · exact .inl h.2
        · exact .inr (by omega)
        · exact .inr (by have := HB5.out.size; omega)
      · have hqz : ¬ (q : Int) < (n : Int) := by omega
        obtain rfl : q = n := by omega
        rw [Nat.sub_self] at hls2
        by_cases hcq : gc = q
        · obtain rfl : q = gc := hcq.symm
          have hcap : (q : Int) ≤ (q : Int) := by omega
          have hqn2 : (q : Int) ≤ (q : Int) := by omega
          go_wp2_with fail
          refine wp_region_held_drew (S := fun w' => w'.cell? ⟨P, 2, none⟩ = some (.slice (some ⟨gb, go, none⟩) q q) ∧ w'.cell? ⟨X, 0, none⟩ = some (.int .i64 x.u)) (by kernel_rfl) ?_ (fun hHeld => ?_)
          · exact ⟨p2, x0⟩
          refine wpAnyH_take (i := 0) (oi := ⟨some 11, _, _, _, _, _⟩) (v := ?_) rfl (by kernel_rfl) (by kernel_rfl) (by kernel_rfl) (fun _ _ _ h => h) (Or.inl ⟨by kernel_rfl, ?_⟩) (by assumption) ?_
          rotate_left
          · (intro w hSw; (try dsimp only at hSw); go_simp; try with_reducible rfl)
          (try simp only [Act.put, List.setIfInBounds_toArray, List.set_cons_zero, List.set_cons_succ])
          refine wpAnyH_take (i := 1) (oi := ⟨some 12, _, _, _, _, _⟩) (v := ?_) rfl (by kernel_rfl) (by kernel_rfl) (by kernel_rfl) (fun _ _ _ h => h) (Or.inl ⟨by kernel_rfl, ?_⟩) (by assumption) ?_
          rotate_left
          · (intro w hSw; (try dsimp only at hSw); go_simp; try with_reducible rfl)
          (try simp only [Act.put, List.setIfInBounds_toArray, List.set_cons_zero, List.set_cons_succ])
          refine wpAnyH_take (i := 2) (oi := ⟨some 13, _, _, _, _, _⟩) (v := ?_) rfl (by kernel_rfl) (by kernel_rfl) (by kernel_rfl) (fun _ _ _ h => h) (Or.inl ⟨by kernel_rfl, ?_⟩) (by assumption) ?_
          rotate_left
          · (intro w hSw; (try dsimp only at hSw); go_simp; try with_reducible rfl)
          (try simp only [Act.put, List.setIfInBounds_toArray, List.set_cons_zero, List.set_cons_succ])
          refine wpAnyH_take (i := 3) (oi := ⟨some 14, _, _, _, _, _⟩) (v := ?_) rfl (by kernel_rfl) (by kernel_rfl) (by kernel_rfl) (fun _ _ _ h => h) (Or.inl ⟨by kernel_rfl, ?_⟩) (by assumption) ?_
          rotate_left
          · (intro w hSw; (try dsimp only at hSw); go_simp; try with_reducible rfl)
          (try simp only [Act.put, List.setIfInBounds_toArray, List.set_cons_zero, List.set_cons_succ])
          refine wpAnyH_take (i := 4) (oi := ⟨some 15, _, _, _, _, _⟩) (v := ?_) rfl (by kernel_rfl) (by kernel_rfl) (by kernel_rfl) (fun _ _ _ h => h) (Or.inl ⟨by kernel_rfl, ?_⟩) (by assumption) ?_
          rotate_left
          · (intro w hSw; (try dsimp only at hSw); go_simp; try with_reducible rfl)
          (try simp only [Act.put, List.setIfInBounds_toArray, List.set_cons_zero, List.set_cons_succ])
          refine wpAnyH_take (i := 5) (oi := ⟨some 16, _, _, _, _, _⟩) (v := ?_) rfl (by kernel_rfl) (by kernel_rfl) (by kernel_rfl) (fun _ _ _ h => h) (Or.inl ⟨by kernel_rfl, ?_⟩) (by assumption) ?_
          rotate_left
          · (intro w hSw; (try dsimp only at hSw); go_simp; try with_reducible rfl)
          (try simp only [Act.put, List.setIfInBounds_toArray, List.set_cons_zero, List.set_cons_succ])
          refine wpAnyH_take (i := 6) (oi := ⟨some 17, _, _, _, _, _⟩) (v := undef) rfl (by kernel_rfl) (by kernel_rfl) (by kernel_rfl) (fun _ _ _ h => h) (Or.inr ⟨by kernel_rfl, rfl⟩) (by assumption) ?_
          (try simp only [Act.put, List.setIfInBounds_toArray, List.set_cons_zero, List.set_cons_succ])
          refine wpAnyH_take (i := 7) (oi := ⟨some 18, _, _, _, _, _⟩) (v := undef) rfl (by kernel_rfl) (by kernel_rfl) (by kernel_rfl) (fun _ _ _ h => h) (Or.inr ⟨by kernel_rfl, rfl⟩) (by assumption) ?_
          (try simp only [Act.put, List.setIfInBounds_toArray, List.set_cons_zero, List.set_cons_succ])
          refine wpAnyH_take (i := 8) (oi := ⟨some 19, _, _, _, _, _⟩) (v := undef) rfl (by kernel_rfl) (by kernel_rfl) (by kernel_rfl) (fun _ _ _ h => h) (Or.inr ⟨by kernel_rfl, rfl⟩) (by assumption) ?_
          (try simp only [Act.put, List.setIfInBounds_toArray, List.set_cons_zero, List.set_cons_succ])
          refine wpAnyH_take (i := 9) (oi := ⟨some 20, _, _, _, _, _⟩) (v := undef) rfl (by kernel_rfl) (by kernel_rfl) (by kernel_rfl) (fun _ _ _ h => h) (Or.inr ⟨by kernel_rfl, rfl⟩) (by assumption) ?_
          (try simp only [Act.put, List.setIfInBounds_toArray, List.set_cons_zero, List.set_cons_succ])
          refine wpAnyH_take (i := 10) (oi := ⟨some 21, _, _, _, _, _⟩) (v := undef) rfl (by kernel_rfl) (by kernel_rfl) (by kernel_rfl) (fun _ _ _ h => h) (Or.inr ⟨by kernel_rfl, rfl⟩) (by assumption) ?_
          (try simp only [Act.put, List.setIfInBounds_toArray, List.set_cons_zero, List.set_cons_succ])
          refine wpAnyH_take (i := 11) (oi := ⟨some 22, _, _, _, _, _⟩) (v := undef) rfl (by kernel_rfl) (by kernel_rfl) (by kernel_rfl) (fun _ _ _ h => h) (Or.inr ⟨by kernel_rfl, rfl⟩) (by assumption) ?_
          (try simp only [Act.put, List.setIfInBounds_toArray, List.set_cons_zero, List.set_cons_succ])
          refine wpAnyH_take (i := 12) (oi := ⟨some 23, _, _, _, _, _⟩) (v := undef) rfl (by kernel_rfl) (by kernel_rfl) (by kernel_rfl) (fun _ _ _ h => h) (Or.inr ⟨by kernel_rfl, rfl⟩) (by assumption) ?_
          (try simp only [Act.put, List.setIfInBounds_toArray, List.set_cons_zero, List.set_cons_succ])
          refine wpAnyH_take (i := 13) (oi := ⟨some 24, _, _, _, _, _⟩) (v := undef) rfl (by kernel_rfl) (by kernel_rfl) (by kernel_rfl) (fun _ _ _ h => h) (Or.inr ⟨by kernel_rfl, rfl⟩) (by assumption) ?_
          (try simp only [Act.put, List.setIfInBounds_toArray, List.set_cons_zero, List.set_cons_succ])
          refine wpAnyH_take (i := 14) (oi := ⟨some 25, _, _, _, _, _⟩) (v := undef) rfl (by kernel_rfl) (by kernel_rfl) (by kernel_rfl) (fun _ _ _ h => h) (Or.inr ⟨by kernel_rfl, rfl⟩) (by assumption) ?_
          (try simp only [Act.put, List.setIfInBounds_toArray, List.set_cons_zero, List.set_cons_succ])
          refine wpAnyH_take (i := 15) (oi := ⟨some 26, _, _, _, _, _⟩) (v := ?_) rfl (by kernel_rfl) (by kernel_rfl) (by kernel_rfl) (fun _ _ _ h => h) (Or.inl ⟨by kernel_rfl, ?_⟩) (by assumption) ?_
          rotate_left
          · (intro w hSw; (try dsimp only at hSw); go_simp; try with_reducible rfl)
          (try simp only [Act.put, List.setIfInBounds_toArray, List.set_cons_zero, List.set_cons_succ])
          refine wpAnyH_done (by kernel_rfl) ?_ _
          obtain ⟨wz, hwz⟩ : ∃ wz, wr.drew = wz := ⟨_, rfl⟩
          have HKZ : Hid (Below w5.heap.size w5 wz) := Lib.hid (by rw [← hwz]; exact HBW.out.drew)
          rw [hwz]
          clear hwz p0 p1 p2 x0 x1 x2 x3
          obtain ⟨wa, E, hwa, hE, hEl, hba, heb⟩ := box_any wz #[] 38
          have HKA := Lib.hid (HKZ.out.trans (hba.mono HKZ.out.size))
          have HRA : Hid (RowPl wa w5.heap.size (fun b => b < w5.heap.size ∧ ((b < w.heap.size ∧ G b) ∨ w3.heap.size ≤ b)) (.slice (some ⟨E, 0, none⟩) 0 0) []) :=
            Lib.hid ⟨⟨rfl, .inr ⟨E, 0, #[], rfl, by have := HKZ.out.size; omega, heb, Nat.le_refl _, Nat.zero_le _, rfl, rfl⟩⟩, AllPcs.nil _ _⟩
          obtain ⟨p0, p1, p2⟩ := three_heads (keep_block HP5.out HKA.out)
          have hbsz := HKA.out.size
          clear hba heb
          go_wp2_with (at_builtin; refine wpList_append_own_at _ rfl _ _ 23 rfl w5.heap.size 38 i0 (.agg #[.int .i64 0, .int .i64 0, .int .i64 0, .slice none 0 0]) 4 48 Try.underlying23 hi hz0 hz1 hz2 rfl (by decide) (.slice (some ⟨E, 0, none⟩) 0 0) 0 [] rfl HRA.out.own ⟨gb, go, none⟩ q q (rowP (ls.take q)) rfl ?c0 ?c1 ?c2 ?c3 ?c4 ?c5 ?_)
          case c0 => rw [rowP_length, hls1]
          case c1 => exact (rowP_part (HMORE.out wa HKA.out) q).1
          case c2 => exact rowP_one _
          case c3 => unfold maxLen; omega
          case c4 => omega
          case c5 => exact hbsz
          intro v7 w7 hown7 hgrow _ hat
          have HK7 := Lib.hid (HKA.out.trans (below_grown5 hgrow hbsz (own_base5 HRA.out.own)))
          have HR7 : Hid (RowPl w7 w5.heap.size (fun b => b < w5.heap.size ∧ ((b < w.heap.size ∧ G b) ∨ w3.heap.size ≤ b)) v7 (ls.take q)) := Lib.hid (HRA.out.more (qs := ls.take q) (pcs_apart HRA.out.own (fun b h => h.1) (fun r hr => (HALL.out r (List.mem_of_mem_take hr)).keep HKA.out)) (by have e : (([] : List Rp).length + q) = q := Nat.zero_add q; rw [hls1, e]; exact hown7) hgrow hat)
          have hsz7 := HK7.out.size
          clear hown7 hgrow hat p0 p1 p2 hbsz hwa hE
          obtain ⟨x0, x1, x2, x3⟩ := four_heads (keep_block HX5.out HK7.out)
          go_wp2_with (at_builtin; refine wpList_append_own_at _ rfl _ _ 23 rfl w5.heap.size 38 i0 (.agg #[.int .i64 0, .int .i64 0, .int .i64 0, .slice none 0 0]) 4 48 Try.underlying23 hi hz0 hz1 hz2 rfl (by decide) v7 _ (rowP (ls.take q)) rfl (HR7.out.own.alloc _) ⟨w7.heap.size, 0, none⟩ 1 1 (rpCells ((B, dd), x)) rfl ?d0 ?d1 ?d2 ?d3 ?d4 ?d5 ?_)
          case d0 => rfl
          case d1 => exact news_rp w7 _ ((B, dd), x)
          case d2 => exact rp_one _
          case d3 => unfold maxLen; omega
          case d4 => omega
          case d5 => simp; omega
          intro v8 w8 hown8 hgrow _ hat
          have hba := (Below.refl w7.heap.size w7).alloc (Nat.le_refl _) (.cells #[.int .i64 x.u, .int .i64 x.s, .int .i64 x.c, .slice B x.ps.length dd] 38)
          have HK8 := Lib.hid ((HK7.out.alloc hsz7 _).trans (below_grown5 hgrow (by simp; omega) (own_base5 HR7.out.own)))
          have HR8 : Hid (RowPl w8 w5.heap.size (fun b => b < w5.heap.size ∧ ((b < w.heap.size ∧ G b) ∨ w3.heap.size ≤ b)) v8 (ls.take q ++ [((B, dd), x)])) := Lib.hid ((HR7.out.keep hba).snoc (pc_apart (v := v7) (HR7.out.keep hba).own (fun b h => h.1) ((HXPA.out.keep HK7.out).keep hba)) (by rw [hls1]; exact hown8) hgrow (hat.imp id fun e => e.trans (by simp)))
          have hsz8 := HK8.out.size
          have hls3 : (ls.take q ++ [(((B, dd), x) : Rp)]).length = q + 1 := by rw [List.length_append, hls1]; rfl
          clear hown8 hgrow hat hba x0 x1 x2 x3
          obtain ⟨p0, p1, p2⟩ := three_heads (keep_block HP5.out HK8.out)
          go_wp2_with (at_builtin; refine wpList_append_own_at _ rfl _ _ 23 rfl w5.heap.size 38 i0 (.agg #[.int .i64 0, .int .i64 0, .int .i64 0, .slice none 0 0]) 4 48 Try.underlying23 hi hz0 hz1 hz2 rfl (by decide) v8 _ (rowP (ls.take q ++ [((B, dd), x)])) rfl HR8.out.own ⟨gb, go, none⟩ 0 _ (rowP (ls.drop q)) rfl ?f0 ?f1 ?f2 ?f3 ?f4 ?f5 ?_)
          case f0 => rw [rowP_length, hls2]
          case f1 => intro j u hj; have := (List.getElem?_eq_some_iff.1 hj).1; rw [rowP_length, hls2] at this; omega
          case f2 => exact rowP_one _
          case f3 => unfold maxLen; omega
          case f4 => omega
          case f5 => exact hsz8
          intro v9 w9 hown9 hgrow _ hat
          have HK9 := Lib.hid (HK8.out.trans (below_grown5 hgrow hsz8 (own_base5 HR8.out.own)))
          have HR9 : Hid (RowPl w9 w5.heap.size (fun b => b < w5.heap.size ∧ ((b < w.heap.size ∧ G b) ∨ w3.heap.size ≤ b)) v9 (ls.take q ++ [((B, dd), x)] ++ ls.drop q)) := Lib.hid (HR8.out.more (qs := ls.drop q) (pcs_apart HR8.out.own (fun b h => h.1) (fun r hr => (HALL.out r (List.mem_of_mem_drop hr)).keep HK8.out)) (by rw [hls3, hls2]; exact hown9) hgrow hat)
          have HEQ : Hid (plsR (ls.take q ++ [((B, dd), x)] ++ ls.drop q) = putPl d x q) := Lib.hid (by rw [plsR_append, plsR_append, plsR_take, plsR_drop, HLS.out]; rfl)
          clear hown9 hgrow hat p0 p1 p2
          obtain ⟨A5, c5, hv5⟩ := own_form HR9.out.own
          obtain ⟨N9, hN9⟩ : ∃ N9, (ls.take q ++ [(((B, dd), x) : Rp)] ++ ls.drop q).length = N9 := ⟨_, rfl⟩
          rw [hN9] at hv5
          subst hv5
          have HPN := Lib.hid (pls_of_own HR9.out.own (HR9.out.pcs.mono (G := (fun b => b < w5.heap.size ∧ ((b < w.heap.size ∧ G b) ∨ w3.heap.size ≤ b))) fun b _ hF => hF.1))
          rw [HEQ.out] at HPN
          have hlt4 := HLT.out
          have HPX := Lib.hid (keep_block HP5.out HK9.out)
          have HRX := Lib.hid (keep_block HR5.out HK9.out)
          have hsz5 := HS5.out
          have HP9 : Hid ((w9.setCell ⟨P, 2, none⟩ (.slice A5 N9 c5)).heap[P]? = some (.cells #[.int .i64 f, .int .u32 m, .slice A5 N9 c5] 25 (0, 0))) := heap_setCell_mem _ _ _ _ _ _ _ HPX.out
          have HR9' : Hid ((w9.setCell ⟨P, 2, none⟩ (.slice A5 N9 c5)).heap[R]? = some (.cells #[.int .i64 0, .int .u32 0, .slice none 0 0] 25 (0, 0))) := (Below.heap_setCell _ _ _ _ (show R ≠ P by omega)).trans HRX.out
          obtain ⟨g0, g1, g2⟩ := three_heads HP9.out
          obtain ⟨p0, p1, p2⟩ := three_heads HPX.out
          obtain ⟨fr⟩ : w9.frozen? ⟨P, 2, none⟩ = false ∧ True := ⟨by have e := HPX.out; simp [World.frozen?, e], trivial⟩
          have hs45 := hsz4.out
          go_wp2_with (refine wpList_store_row rfl _ _ _ rfl R #[.int .i64 f, .int .u32 m, .slice A5 N9 c5] rfl rfl 25 _ HR9'.out (Try.sizePn _ _ _) rfl (one3 _ _ _ _ _) ?_)
          refine bodyPost_ret (v := planA f m (.slice A5 N9 c5)) (results_cell_row rfl _ _ R _ _ _ _ rfl (setRow_heap _ _ _ _ _ _ HR9'.out) Try.underlying25 rfl (Try.sizePn _ _ _)) rfl ?_
          have hend := pn_end (w := w) (W := w9) (P := P) (R := R) (l := putPl d x q) (F := fun b => (b < w5.heap.size ∧ ((b < w.heap.size ∧ G b) ∨ w3.heap.size ≤ b)) ∨ w5.heap.size ≤ b) HPN.out (by omega) (by omega) (HB5.out.trans (HK9.out.mono HB5.out.size)) hlt4.1 (by omega) #[.int .i64 f, .int .u32 m, .slice A5 N9 c5]
          refine ⟨_, rfl, hend.1.mono fun b _ hb => ?_, hend.2⟩
          rcases hb with ⟨_, h | h⟩ | h
          · exact .inl h.2
          · exact .inr (by omega)
          · exact .inr (by have := HB5.out.size; omega)
        · have hcap : (q : Int) ≤ (gc : Int) := by omega
          have hqn2 : (q : Int) ≤ (q : Int) := by omega
          go_wp2_with fail
          refine wp_region_held_drew (S := fun w' => w'.cell? ⟨P, 2, none⟩ = some (.slice (some ⟨gb, go, none⟩) q gc) ∧ w'.cell? ⟨X, 0, none⟩ = some (.int .i64 x.u)) (by kernel_rfl) ?_ (fun hHeld => ?_)
          · exact ⟨p2, x0⟩
          refine wpAnyH_take (i := 0) (oi := ⟨some 11, _, _, _, _, _⟩) (v := ?_) rfl (by kernel_rfl) (by kernel_rfl) (by kernel_rfl) (fun _ _ _ h => h) (Or.inl ⟨by kernel_rfl, ?_⟩) (by assumption) ?_
          rotate_left
          · (intro w hSw; (try dsimp only at hSw); go_simp; try with_reducible rfl)
          (try simp only [Act.put, List.setIfInBounds_toArray, List.set_cons_zero, List.set_cons_succ])
          refine wpAnyH_take (i := 1) (oi := ⟨some 12, _, _, _, _, _⟩) (v := ?_) rfl (by kernel_rfl) (by kernel_rfl) (by kernel_rfl) (fun _ _ _ h => h) (Or.inl ⟨by kernel_rfl, ?_⟩) (by assumption) ?_
          rotate_left
          · (intro w hSw; (try dsimp only at hSw); go_simp; try with_reducible rfl)
          (try simp only [Act.put, List.setIfInBounds_toArray, List.set_cons_zero, List.set_cons_succ])
          refine wpAnyH_take (i := 2) (oi := ⟨some 13, _, _, _, _, _⟩) (v := ?_) rfl (by kernel_rfl) (by kernel_rfl) (by kernel_rfl) (fun _ _ _ h => h) (Or.inl ⟨by kernel_rfl, ?_⟩) (by assumption) ?_
          rotate_left
          · (intro w hSw; (try dsimp only at hSw); go_simp; try with_reducible rfl)
          (try simp only [Act.put, List.setIfInBounds_toArray, List.set_cons_zero, List.set_cons_succ])
          refine wpAnyH_take (i := 3) (oi := ⟨some 14, _, _, _, _, _⟩) (v := ?_) rfl (by kernel_rfl) (by kernel_rfl) (by kernel_rfl) (fun _ _ _ h => h) (Or.inl ⟨by kernel_rfl, ?_⟩) (by assumption) ?_
          rotate_left
          · (intro w hSw; (try dsimp only at hSw); go_simp; try with_reducible rfl)
          (try simp only [Act.put, List.setIfInBounds_toArray, List.set_cons_zero, List.set_cons_succ])
          refine wpAnyH_take (i := 4) (oi := ⟨some 15, _, _, _, _, _⟩) (v := ?_) rfl (by kernel_rfl) (by kernel_rfl) (by kernel_rfl) (fun _ _ _ h => h) (Or.inl ⟨by kernel_rfl, ?_⟩) (by assumption) ?_
          rotate_left
          · (intro w hSw; (try dsimp only at hSw); go_simp; try with_reducible rfl)
          (try simp only [Act.put, List.setIfInBounds_toArray, List.set_cons_zero, List.set_cons_succ])
          refine wpAnyH_take (i := 5) (oi := ⟨some 16, _, _, _, _, _⟩) (v := ?_) rfl (by kernel_rfl) (by kernel_rfl) (by kernel_rfl) (fun _ _ _ h => h) (Or.inl ⟨by kernel_rfl, ?_⟩) (by assumption) ?_
          rotate_left
          · (intro w hSw; (try dsimp only at hSw); go_simp; try with_reducible rfl)
          (try simp only [Act.put, List.setIfInBounds_toArray, List.set_cons_zero, List.set_cons_succ])
          refine wpAnyH_take (i := 6) (oi := ⟨some 17, _, _, _, _, _⟩) (v := undef) rfl (by kernel_rfl) (by kernel_rfl) (by kernel_rfl) (fun _ _ _ h => h) (Or.inr ⟨by kernel_rfl, rfl⟩) (by assumption) ?_
          (try simp only [Act.put, List.setIfInBounds_toArray, List.set_cons_zero, List.set_cons_succ])
          refine wpAnyH_take (i := 7) (oi := ⟨some 18, _, _, _, _, _⟩) (v := undef) rfl (by kernel_rfl) (by kernel_rfl) (by kernel_rfl) (fun _ _ _ h => h) (Or.inr ⟨by kernel_rfl, rfl⟩) (by assumption) ?_
          (try simp only [Act.put, List.setIfInBounds_toArray, List.set_cons_zero, List.set_cons_succ])
          refine wpAnyH_take (i := 8) (oi := ⟨some 19, _, _, _, _, _⟩) (v := undef) rfl (by kernel_rfl) (by kernel_rfl) (by kernel_rfl) (fun _ _ _ h => h) (Or.inr ⟨by kernel_rfl, rfl⟩) (by assumption) ?_
          (try simp only [Act.put, List.setIfInBounds_toArray, List.set_cons_zero, List.set_cons_succ])
          refine wpAnyH_take (i := 9) (oi := ⟨some 20, _, _, _, _, _⟩) (v := undef) rfl (by kernel_rfl) (by kernel_rfl) (by kernel_rfl) (fun _ _ _ h => h) (Or.inr ⟨by kernel_rfl, rfl⟩) (by assumption) ?_
          (try simp only [Act.put, List.setIfInBounds_toArray, List.set_cons_zero, List.set_cons_succ])
          refine wpAnyH_take (i := 10) (oi := ⟨some 21, _, _, _, _, _⟩) (v := undef) rfl (by kernel_rfl) (by kernel_rfl) (by kernel_rfl) (fun _ _ _ h => h) (Or.inr ⟨by kernel_rfl, rfl⟩) (by assumption) ?_
          (try simp only [Act.put, List.setIfInBounds_toArray, List.set_cons_zero, List.set_cons_succ])
          refine wpAnyH_take (i := 11) (oi := ⟨some 22, _, _, _, _, _⟩) (v := undef) rfl (by kernel_rfl) (by kernel_rfl) (by kernel_rfl) (fun _ _ _ h => h) (Or.inr ⟨by kernel_rfl, rfl⟩) (by assumption) ?_
          (try simp only [Act.put, List.setIfInBounds_toArray, List.set_cons_zero, List.set_cons_succ])
          refine wpAnyH_take (i := 12) (oi := ⟨some 23, _, _, _, _, _⟩) (v := undef) rfl (by kernel_rfl) (by kernel_rfl) (by kernel_rfl) (fun _ _ _ h => h) (Or.inr ⟨by kernel_rfl, rfl⟩) (by assumption) ?_
          (try simp only [Act.put, List.setIfInBounds_toArray, List.set_cons_zero, List.set_cons_succ])
          refine wpAnyH_take (i := 13) (oi := ⟨some 24, _, _, _, _, _⟩) (v := undef) rfl (by kernel_rfl) (by kernel_rfl) (by kernel_rfl) (fun _ _ _ h => h) (Or.inr ⟨by kernel_rfl, rfl⟩) (by assumption) ?_
          (try simp only [Act.put, List.setIfInBounds_toArray, List.set_cons_zero, List.set_cons_succ])
          refine wpAnyH_take (i := 14) (oi := ⟨some 25, _, _, _, _, _⟩) (v := undef) rfl (by kernel_rfl) (by kernel_rfl) (by kernel_rfl) (fun _ _ _ h => h) (Or.inr ⟨by kernel_rfl, rfl⟩) (by assumption) ?_
          (try simp only [Act.put, List.setIfInBounds_toArray, List.set_cons_zero, List.set_cons_succ])
          refine wpAnyH_take (i := 15) (oi := ⟨some 26, _, _, _, _, _⟩) (v := ?_) rfl (by kernel_rfl) (by kernel_rfl) (by kernel_rfl) (fun _ _ _ h => h) (Or.inl ⟨by kernel_rfl, ?_⟩) (by assumption) ?_
          rotate_left
          · (intro w hSw; (try dsimp only at hSw); go_simp; try with_reducible rfl)
          (try simp only [Act.put, List.setIfInBounds_toArray, List.set_cons_zero, List.set_cons_succ])
          refine wpAnyH_done (by kernel_rfl) ?_ _
          obtain ⟨wz, hwz⟩ : ∃ wz, wr.drew = wz := ⟨_, rfl⟩
          have HKZ : Hid (Below w5.heap.size w5 wz) := Lib.hid (by rw [← hwz]; exact HBW.out.drew)
          rw [hwz]
          clear hwz p0 p1 p2 x0 x1 x2 x3
          obtain ⟨wa, E, hwa, hE, hEl, hba, heb⟩ := box_any wz #[] 38
          have HKA := Lib.hid (HKZ.out.trans (hba.mono HKZ.out.size))
          have HRA : Hid (RowPl wa w5.heap.size (fun b => b < w5.heap.size ∧ ((b < w.heap.size ∧ G b) ∨ w3.heap.size ≤ b)) (.slice (some ⟨E, 0, none⟩) 0 0) []) :=
            Lib.hid ⟨⟨rfl, .inr ⟨E, 0, #[], rfl, by have := HKZ.out.size; omega, heb, Nat.le_refl _, Nat.zero_le _, rfl, rfl⟩⟩, AllPcs.nil _ _⟩
          obtain ⟨p0, p1, p2⟩ := three_heads (keep_block HP5.out HKA.out)
          have hbsz := HKA.out.size
          clear hba heb
          go_wp2_with (at_builtin; refine wpList_append_own_at _ rfl _ _ 23 rfl w5.heap.size 38 i0 (.agg #[.int .i64 0, .int .i64 0, .int .i64 0, .slice none 0 0]) 4 48 Try.underlying23 hi hz0 hz1 hz2 rfl (by decide) (.slice (some ⟨E, 0, none⟩) 0 0) 0 [] rfl HRA.out.own ⟨gb, go, none⟩ q gc (rowP (ls.take q)) rfl ?c0 ?c1 ?c2 ?c3 ?c4 ?c5 ?_)
          case c0 => rw [rowP_length, hls1]
          case c1 => exact (rowP_part (HMORE.out wa HKA.out) q).1
          case c2 => exact rowP_one _
          case c3 => unfold maxLen; omega
          case c4 => omega
          case c5 => exact hbsz
          intro v7 w7 hown7 hgrow _ hat
          have HK7 := Lib.hid (HKA.out.trans (below_grown5 hgrow hbsz (own_base5 HRA.out.own)))
          have HR7 : Hid (RowPl w7 w5.heap.size (fun b => b < w5.heap.size ∧ ((b < w.heap.size ∧ G b) ∨ w3.heap.size ≤ b)) v7 (ls.take q)) := Lib.hid (HRA.out.more (qs := ls.take q) (pcs_apart HRA.out.own (fun b h => h.1) (fun r hr => (HALL.out r (List.mem_of_mem_take hr)).keep HKA.out)) (by have e : (([] : List Rp).length + q) = q := Nat.zero_add q; rw [hls1, e]; exact hown7) hgrow hat)
          have hsz7 := HK7.out.size
          clear hown7 hgrow hat p0 p1 p2 hbsz hwa hE
          obtain ⟨x0, x1, x2, x3⟩ := four_heads (keep_block HX5.out HK7.out)
          go_wp2_with (at_builtin; refine wpList_append_own_at _ rfl _ _ 23 rfl w5.heap.size 38 i0 (.agg #[.int .i64 0, .int .i64 0, .int .i64 0, .slice none 0 0]) 4 48 Try.underlying23 hi hz0 hz1 hz2 rfl (by decide) v7 _ (rowP (ls.take q)) rfl (HR7.out.own.alloc _) ⟨w7.heap.size, 0, none⟩ 1 1 (rpCells ((B, dd), x)) rfl ?d0 ?d1 ?d2 ?d3 ?d4 ?d5 ?_)
          case d0 => rfl
          case d1 => exact news_rp w7 _ ((B, dd), x)
          case d2 => exact rp_one _
          case d3 => unfold maxLen; omega
          case d4 => omega
          case d5 => simp; omega
          intro v8 w8 hown8 hgrow _ hat
          have hba := (Below.refl w7.heap.size w7).alloc (Nat.le_refl _) (.cells #[.int .i64 x.u, .int .i64 x.s, .int .i64 x.c, .slice B x.ps.length dd] 38)
          have HK8 := Lib.hid ((HK7.out.alloc hsz7 _).trans (below_grown5 hgrow (by simp; omega) (own_base5 HR7.out.own)))
          have HR8 : Hid (RowPl w8 w5.heap.size (fun b => b < w5.heap.size ∧ ((b < w.heap.size ∧ G b) ∨ w3.heap.size ≤ b)) v8 (ls.take q ++ [((B, dd), x)])) := Lib.hid ((HR7.out.keep hba).snoc (pc_apart (v := v7) (HR7.out.keep hba).own (fun b h => h.1) ((HXPA.out.keep HK7.out).keep hba)) (by rw [hls1]; exact hown8) hgrow (hat.imp id fun e => e.trans (by simp)))
          have hsz8 := HK8.out.size
          have hls3 : (ls.take q ++ [(((B, dd), x) : Rp)]).length = q + 1 := by rw [List.length_append, hls1]; rfl
          clear hown8 hgrow hat hba x0 x1 x2 x3
          obtain ⟨p0, p1, p2⟩ := three_heads (keep_block HP5.out HK8.out)
          go_wp2_with (at_builtin; refine wpList_append_own_at _ rfl _ _ 23 rfl w5.heap.size 38 i0 (.agg #[.int .i64 0, .int .i64 0, .int .i64 0, .slice none 0 0]) 4 48 Try.underlying23 hi hz0 hz1 hz2 rfl (by decide) v8 _ (rowP (ls.take q ++ [((B, dd), x)])) rfl HR8.out.own ⟨gb, go + q * 4, none⟩ 0 _ (rowP (ls.drop q)) rfl ?f0 ?f1 ?f2 ?f3 ?f4 ?f5 ?_)
          case f0 => rw [rowP_length, hls2]
          case f1 => exact (rowP_part (HMORE.out w8 HK8.out) q).2
          case f2 => exact rowP_one _
          case f3 => unfold maxLen; omega
          case f4 => omega
          case f5 => exact hsz8
          intro v9 w9 hown9 hgrow _ hat
          have HK9 := Lib.hid (HK8.out.trans (below_grown5 hgrow hsz8 (own_base5 HR8.out.own)))
          have HR9 : Hid (RowPl w9 w5.heap.size (fun b => b < w5.heap.size ∧ ((b < w.heap.size ∧ G b) ∨ w3.heap.size ≤ b)) v9 (ls.take q ++ [((B, dd), x)] ++ ls.drop q)) := Lib.hid (HR8.out.more (qs := ls.drop q) (pcs_apart HR8.out.own (fun b h => h.1) (fun r hr => (HALL.out r (List.mem_of_mem_drop hr)).keep HK8.out)) (by rw [hls3, hls2]; exact hown9) hgrow hat)
          have HEQ : Hid (plsR (ls.take q ++ [((B, dd), x)] ++ ls.drop q) = putPl d x q) := Lib.hid (by rw [plsR_append, plsR_append, plsR_take, plsR_drop, HLS.out]; rfl)
          clear hown9 hgrow hat p0 p1 p2
          obtain ⟨A5, c5, hv5⟩ := own_form HR9.out.own
          obtain ⟨N9, hN9⟩ : ∃ N9, (ls.take q ++ [(((B, dd), x) : Rp)] ++ ls.drop q).length = N9 := ⟨_, rfl⟩
          rw [hN9] at hv5
          subst hv5
          have HPN := Lib.hid (pls_of_own HR9.out.own (HR9.out.pcs.mono (G := (fun b => b < w5.heap.size ∧ ((b < w.heap.size ∧ G b) ∨ w3.heap.size ≤ b))) fun b _ hF => hF.1))
          rw [HEQ.out] at HPN
          have hlt4 := HLT.out
          have HPX := Lib.hid (keep_block HP5.out HK9.out)
          have HRX := Lib.hid (keep_block HR5.out HK9.out)
          have hsz5 := HS5.out
          have HP9 : Hid ((w9.setCell ⟨P, 2, none⟩ (.slice A5 N9 c5)).heap[P]? = some (.cells #[.int .i64 f, .int .u32 m, .slice A5 N9 c5] 25 (0, 0))) := heap_setCell_mem _ _ _ _ _ _ _ HPX.out
          have HR9' : Hid ((w9.setCell ⟨P, 2, none⟩ (.slice A5 N9 c5)).heap[R]? = some (.cells #[.int .i64 0, .int .u32 0, .slice none 0 0] 25 (0, 0))) := (Below.heap_setCell _ _ _ _ (show R ≠ P by omega)).trans HRX.out
          obtain ⟨g0, g1, g2⟩ := three_heads HP9.out
          obtain ⟨p0, p1, p2⟩ := three_heads HPX.out
          obtain ⟨fr⟩ : w9.frozen? ⟨P, 2, none⟩ = false ∧ True := ⟨by have e := HPX.out; simp [World.frozen?, e], trivial⟩
          have hs45 := hsz4.out
          go_wp2_with (refine wpList_store_row rfl _ _ _ rfl R #[.int .i64 f, .int .u32 m, .slice A5 N9 c5] rfl rfl 25 _ HR9'.out (Try.sizePn _ _ _) rfl (one3 _ _ _ _ _) ?_)
          refine bodyPost_ret (v := planA f m (.slice A5 N9 c5)) (results_cell_row rfl _ _ R _ _ _ _ rfl (setRow_heap _ _ _ _ _ _ HR9'.out) Try.underlying25 rfl (Try.sizePn _ _ _)) rfl ?_
          have hend := pn_end (w := w) (W := w9) (P := P) (R := R) (l := putPl d x q) (F := fun b => (b < w5.heap.size ∧ ((b < w.heap.size ∧ G b) ∨ w3.heap.size ≤ b)) ∨ w5.heap.size ≤ b) HPN.out (by omega) (by omega) (HB5.out.trans (HK9.out.mono HB5.out.size)) hlt4.1 (by omega) #[.int .i64 f, .int .u32 m, .slice A5 N9 c5]
          refine ⟨_, rfl, hend.1.mono fun b _ hb => ?_, hend.2⟩
          rcases hb with ⟨_, h | h⟩ | h
          · exact .inl h.2
          · exact .inr (by omega)
          · exact .inr (by have := HB5.out.size; omega)
end Go.Proofs.Ytkgkanmccaodfaa
