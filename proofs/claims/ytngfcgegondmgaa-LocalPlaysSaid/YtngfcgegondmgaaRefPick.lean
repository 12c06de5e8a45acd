/-
  The document's Pick.
  Conditions: the numbers are small.
-/
import Derived.Test.YtngfcgegondmgaaRefBox
import Derived.Test.YtngfcgegondmgaaOrders
set_option linter.unusedVariables false
set_option linter.unusedSimpArgs false
namespace Go.Proofs.Ytngfcgegondmgaa
open Go.RowKit

theorem own_emptyK (w : World) (t size : Nat) {M : Nat} (h : w.heap.size = M) : (w.alloc (Obj.cells #[] t)).ownsRow M t size (.slice (some ⟨M, 0, none⟩) 0 0) 0 [] := by
  subst h
  exact ⟨by simp, .inr ⟨w.heap.size, 0, #[], rfl, Nat.le_refl _, heap_alloc_new w _, Nat.le_refl _, Nat.zero_le _, by simp, by simp⟩⟩
theorem rowG_cells {W W2 : World} {g n d : Nat} {l : List Lm} (h : RowG W (.slice (some ⟨g, 0, none⟩) n d) l) (hb : Below W.heap.size W W2) : ∀ j u, (gC l)[j]? = some u → W2.cell? ((⟨g, 0, none⟩ : Addr).add j) = some u := by
  intro j u hj
  rw [Addr.add_lit, Nat.zero_add]
  unfold gC at hj
  rw [List.getElem?_map] at hj
  obtain ⟨m, hm, rfl⟩ := Option.map_eq_some_iff.1 hj
  obtain ⟨g', cap, hv, hl, _, _, c0, _⟩ := rowG_at h hm
  injection hv with hv _ _
  injection hv with hv
  injection hv with hv
  subst hv
  exact (hb.cell (p := ⟨g, j, none⟩) hl).trans c0
theorem drew_heap {w : World} {k : Nat} {o : Obj} (h : w.heap[k]? = some o) : w.drew.heap[k]? = some o := h
theorem gC_set (l : List Lm) (k : Nat) (m : Lm) : (gC l).set k (.int .i64 m.g) = gC (l.set k m) := by unfold gC; rw [List.map_set]
theorem Box.other {W w : World} {N : Nat} {a b : Value} {p : Addr} (h : Box W w N a b) (hp : N + 1 < p.block) (u : Value) : Box W (w.setCell p u) N a b := by
  have hn := h.n
  exact ⟨(Below.heap_setCell _ _ _ _ (show N ≠ p.block by omega)).trans h.box, (Below.heap_setCell _ _ _ _ (show N + 1 ≠ p.block by omega)).trans h.res, h.bel.setCell (by omega) _, hn⟩

set_option maxRecDepth 100000 in
set_option maxHeartbeats 4000000 in
theorem refPick_any {G : Nat} (W : World) (vL vG : Value) (l : List Lm) (ov : Value) (xs : List Int) (h : RefOwn W vL vG l) (ho : OkL G l) (hG : G ≤ 1000000) (hx : IntsAt W ov xs) :
    Calls Try.prog 13 #[.agg #[vL, vG], ov] W (RefPostE W (pickT (offB xs) l) (.int .i64 (unitO (nextT (offB xs) l)))) := by
  have HR := Lib.hid h
  have hlen := ho.len
  obtain ⟨A, c, hvL⟩ := own_form h.ws
  obtain ⟨B, d, hvG⟩ := own_form h.gs
  subst hvL hvG
  obtain ⟨n, hn⟩ : ∃ n, l.length = n := ⟨_, rfl⟩
  have HN := Lib.hid hn
  obtain ⟨N, hN⟩ : ∃ N, W.heap.size = N := ⟨_, rfl⟩
  obtain ⟨w2, hw2⟩ : ∃ w2, (W.alloc (.cells #[.slice A l.length c, .slice B l.length d] 32)).alloc (.cells #[.slice none 0 0, .slice none 0 0] 32) = w2 := ⟨_, rfl⟩
  have HX : Hid (Box W w2 N (.slice A l.length c) (.slice B l.length d)) := by rw [← hw2, ← hN]; exact box_new W _ _
  obtain ⟨r0, r1, _, _⟩ := two_heads HX.out.box
  have HNX := Lib.hid (refNext_any w2 _ _ l ov xs (HR.out.below HX.out.bel) ho hG (hx.keep HX.out.bel))
  unfold pickT
  rw [hn] at HR HX HNX r0 r1 hw2 hlen ⊢
  cases hb : nextT (offB xs) l with
  | none =>
    rw [hb] at HNX
    have e : idxI none = -1 := rfl
    rw [e] at HNX
    clear h ho hx hn hb e
    go_enter Try.func13, Try.ntmps13
    go_wp2_with fail
    clear hw2 hN r0 r1
    refine HNX.out.mono ?_
    rintro e w3 ⟨rfl, hb⟩
    have HX3 := Lib.hid (HX.out.below hb)
    clear hb
    obtain ⟨r0, r1, r2, r3⟩ := two_heads HX3.out.box
    obtain ⟨o0, o1, o2, o3⟩ := two_heads HX3.out.res
    have HDN := Lib.hid (HX3.out.done (HR.out.below HX3.out.bel))
    go_wp2_with fail
    refine bodyPost_ret (v := .tuple #[.agg #[.slice A n c, .slice B n d], .int .i64 0]) (results_row_tmp rfl _ _ (N + 1) _ _ _ _ rfl HDN.out.1 Try.underlying32 rfl (Try.sizeRef _ _) _ rfl) rfl ?_
    exact ⟨_, _, rfl, HDN.out.2⟩
  | some b =>
    obtain ⟨k, m⟩ := b
    rw [hb] at HNX
    have e : idxI (some (k, m)) = (k : Int) := rfl
    rw [e] at HNX
    have hm := (next_some ho.share hb).at_
    have HM := Lib.hid hm
    have hkl := (List.getElem?_eq_some_iff.1 hm).1
    rw [hn] at hkl
    have hmb := ho.got m (List.mem_of_getElem? hm)
    have hk1 : (k : Int) < (n : Int) := by omega
    have hk0 : (0 : Int) ≤ (k : Int) := by omega
    have hk2 : decide ((k : Int) < 0) = false := decide_eq_false (by omega)
    obtain ⟨x, hx'⟩ : ∃ x, m.g + 1 = x := ⟨_, rfl⟩
    have hx2 : (m.g : Int) + 1 = (x : Int) := by omega
    have hx3 : (x : Int) ≤ 1000001 := by omega
    obtain ⟨L', hL'⟩ : ∃ L', pickO l (some (k, m)) = L' := ⟨_, rfl⟩
    have HGS : Hid ((gC l).set k (.int .i64 x) = gC L') := by
      rw [← hL', ← hx']
      exact gC_set l k (more m)
    have HWS : Hid (wantsT L' = wantsT l) := by
      have := wants_pick (offB xs) ho.share
      unfold pickT at this
      rw [hb, hL'] at this
      exact this
    have HLL : Hid (L'.length = n) := by rw [← hL', ← hn]; exact List.length_set
    have huv : unitO (some (k, m)) = m.u := rfl
    rw [hL', huv]
    obtain ⟨i0, hi, hz0, hz1, hz2⟩ := info_parts Try.infoInt
    have mixed : Try.prog.follows .mixedOrders = true := by kernel_rfl
    clear h ho hG hx hn hb e hm hx' hL' huv
    obtain ⟨m1, m2, m3⟩ := m
    simp only at hx2 hmb ⊢
    go_enter Try.func13, Try.ntmps13
    go_wp2_with fail
    clear hw2 hN r0 r1
    refine HNX.out.mono ?_
    rintro e w3 ⟨rfl, hb⟩
    have HX3 := Lib.hid (HX.out.below hb)
    have HR3 := Lib.hid (HR.out.below HX3.out.bel)
    obtain ⟨g, cap, hA, hgl, _, hcap, c0, c1⟩ := rowW_at HR3.out.ws HM.out
    obtain ⟨g2, cap2, hA2, hgl2, _, hcap2, c2, _⟩ := rowG_at HR3.out.gs HM.out
    injection hA with hA hA1 hA3; clear hA1 hA3
    injection hA2 with hA2 hA1 hA3; clear hA1 hA3
    subst hA hA2
    obtain ⟨M, hM⟩ : ∃ M, w3.heap.size = M := ⟨_, rfl⟩
    have HNM : Hid (N + 1 < M) := by rw [← hM]; exact HX3.out.lt
    obtain ⟨w4, hw4⟩ : ∃ w4, w3.alloc (.cells #[] 3) = w4 := ⟨_, rfl⟩
    have hb4 : Below w3.heap.size w3 w4 := by rw [← hw4]; exact (Below.refl _ w3).alloc (Nat.le_refl _) _
    have HO4 : Hid (w4.ownsRow M 3 1 (.slice (some ⟨M, 0, none⟩) 0 0) 0 []) := by rw [← hw4]; exact own_emptyK w3 3 1 hM
    have HX4 := Lib.hid (HX3.out.below hb4)
    have HR4 := Lib.hid (HR3.out.below hb4)
    have HS4 : Hid (M ≤ w4.heap.size) := by rw [← hM]; exact hb4.size
    obtain ⟨r0, r1, r2, r3⟩ := two_heads HX4.out.box
    have HL1 : Hid ((gC l).length = n * 1) := by show _ = _; rw [gC_length, HN.out, Nat.mul_one]
    have HN1 := Lib.hid (rowG_cells HR3.out.gs hb4)
    have HE1 := Lib.hid (gC_one l)
    have HM1 : Hid (0 + n ≤ maxLen) := by show _ ≤ _; unfold maxLen; omega
    have HY1 : Hid ((0 + n) * 8 ≤ 140737488355328) := by show _ ≤ _; omega
    clear hb hb4 c0 c1 c2 hgl hgl2 hcap hcap2
    go_wp2_with (at_builtin; refine wpList_append_own _ rfl _ _ 30 rfl M 3 i0 (.int .i64 0) 1 8 Try.underlying30 hi hz0 hz1 hz2 rfl (by decide) _ _ _ rfl HO4.out ⟨g2, 0, none⟩ n d (gC l) rfl HL1.out HN1.out HE1.out HM1.out HY1.out HS4.out ?_)
    intro v5 w5 hown5 hgrow5 _
    have hb5 : Below M w4 w5 := below_grown5 hgrow5 HS4.out (own_base5 HO4.out)
    have HS5 : Hid (M ≤ w5.heap.size) := Nat.le_trans HS4.out hb5.size
    have HG5 : Hid (w5.ownsRow M 3 1 v5 n (gC l)) := by
      show World.ownsRow _ _ _ _ _ _ _
      exact hown5
    obtain ⟨g5, c5, hv5, hg5M, hg5l, hc5⟩ : ∃ g5 c5, v5 = .slice (some ⟨g5, 0, none⟩) n c5 ∧ M ≤ g5 ∧ g5 < w5.heap.size ∧ n ≤ c5 := by
      rcases HG5.out.2 with ⟨_, h0⟩ | ⟨g', cap', cur, h1, h2, h3, h4, _⟩
      · omega
      · exact ⟨g', cap', h1, h2, heap_lt h3, h4⟩
    subst hv5
    have hbox5 : w5.heap[N]? = w4.heap[N]? := hb5.block N (by have := HNM.out; omega)
    have hres5 : w5.heap[N + 1]? = w4.heap[N + 1]? := hb5.block (N + 1) HNM.out
    have HX5 : Hid (Box W w5 N (.slice (some ⟨g, 0, none⟩) n c) (.slice (some ⟨g2, 0, none⟩) n d)) :=
      ⟨hbox5.trans HX4.out.box, hres5.trans HX4.out.res, HX4.out.bel.trans (hb5.mono (by have := HX4.out.n; have := HNM.out; omega)), HX4.out.n⟩
    have HW5 : Hid (RowW w5 (.slice (some ⟨g, 0, none⟩) n c) l) := own_keep HR4.out.ws fun k hk => hb5.block k (by
      have := own_lt HR3.out.ws hk
      omega)
    clear hown5 hgrow5 r0 r1 r2 r3 hbox5 hres5
    obtain ⟨r0, r1, r2, r3⟩ := two_heads HX5.out.box
    have HX6 := Lib.hid (HX5.out.set1 (.slice (some ⟨g5, 0, none⟩) n c5))
    have HG6 : Hid ((w5.setCell ⟨N, 1, none⟩ (.slice (some ⟨g5, 0, none⟩) n c5)).ownsRow M 3 1 (.slice (some ⟨g5, 0, none⟩) n c5) n (gC l)) := own_keep HG5.out fun k hk => Below.heap_setCell _ _ _ _ (show k ≠ N from fun e => own_ne HG5.out HX5.out.box (by decide) (by rw [← e]; exact hk))
    have HW6 : Hid (RowW (w5.setCell ⟨N, 1, none⟩ (.slice (some ⟨g5, 0, none⟩) n c5)) (.slice (some ⟨g, 0, none⟩) n c) l) := own_keep HW5.out fun k hk => Below.heap_setCell _ _ _ _ (show k ≠ N from fun e => own_ne HW5.out HX5.out.box (by decide) (by rw [← e]; exact hk))
    obtain ⟨w6, hw6⟩ : ∃ w6, w5.setCell ⟨N, 1, none⟩ (.slice (some ⟨g5, 0, none⟩) n c5) = w6 := ⟨_, rfl⟩
    rw [hw6] at HX6 HG6 HW6
    have HG6' : Hid (RowG w6 (.slice (some ⟨g5, 0, none⟩) n c5) l) := by
      show w6.ownsRow 0 _ 1 _ l.length (gC l)
      rw [HN.out]
      exact own_mono5 HG6.out (Nat.zero_le _)
    obtain ⟨s0, s1, s2, s3⟩ := two_heads HX6.out.box
    obtain ⟨_, _, hA2, _, _, _, d2, d3⟩ := rowG_at HG6'.out HM.out
    injection hA2 with hA2 hA1 hA3; clear hA1 hA3
    injection hA2 with hA2; injection hA2 with hA2
    subst hA2
    have HX7 := Lib.hid (HX6.out.other (p := ⟨g5, k, none⟩) (by have := HNM.out; show N + 1 < g5; omega) (.int .i64 x))
    have HG7 : Hid ((w6.setCell ⟨g5, k, none⟩ (.int .i64 x)).ownsRow M 3 1 (.slice (some ⟨g5, 0, none⟩) n c5) n ((gC l).set k (.int .i64 x))) := ownK_set HG6.out _
    have hobj6 : ∃ cs, w6.heap[g5]? = some (.cells cs 3 (0, 0)) := by
      rcases HG6.out.2 with ⟨h0, _⟩ | ⟨g', cap', cur, h1, h2, h3, h4, _⟩
      · cases h0
      · injection h1 with h1 _ _
        injection h1 with h1
        injection h1 with h1
        subst h1
        exact ⟨_, h3⟩
    obtain ⟨cs6, hobj6⟩ := hobj6
    have HW7 : Hid (RowW (w6.setCell ⟨g5, k, none⟩ (.int .i64 x)) (.slice (some ⟨g, 0, none⟩) n c) l) := own_keep HW6.out fun j hk => Below.heap_setCell _ _ _ _ (show j ≠ g5 from fun e => own_ne HW6.out hobj6 (by decide) (by rw [← e]; exact hk))
    obtain ⟨w7, hw7⟩ : ∃ w7, w6.setCell ⟨g5, k, none⟩ (.int .i64 x) = w7 := ⟨_, rfl⟩
    rw [hw7] at HX7 HG7 HW7
    have HR7 : Hid (RefOwn w7 (.slice (some ⟨g, 0, none⟩) n c) (.slice (some ⟨g5, 0, none⟩) n c5) L') := by
      refine ⟨?_, ?_⟩
      · show w7.ownsRow 0 _ 2 _ L'.length (spansCells (wantsT L'))
        rw [HLL.out, HWS.out, ← HN.out]
        have := HW7.out
        rw [← HN.out] at this
        exact this
      · show w7.ownsRow 0 _ 1 _ L'.length (gC L')
        rw [HLL.out, ← HGS.out]
        exact own_mono5 HG7.out (Nat.zero_le _)
    obtain ⟨t0, t1, t2, t3⟩ := two_heads HX7.out.box
    obtain ⟨o0, o1, o2, o3⟩ := two_heads HX7.out.res
    obtain ⟨_, _, hA, e1, _, _, e2, e3⟩ := rowW_at HW7.out HM.out
    injection hA with hA hA1 hA3; clear hA1 hA3
    injection hA with hA; injection hA with hA
    subst hA
    have HDN := Lib.hid (HX7.out.done HR7.out)
    have hgn1 : ¬ (g = N + 1) := fun e => own_ne HW7.out HX7.out.res (by decide) (by rw [← e]; rfl)
    have hgn2 : ¬ (N + 1 = g) := fun e => hgn1 e.symm
    clear hobj6
    go_wp2_with fail
    go_region_held3 (fun w' => w'.cell? ⟨N, 0, none⟩ = some (.slice (some ⟨g, 0, none⟩) n c) ∧ w'.cell? ⟨N, 1, none⟩ = some (.slice (some ⟨g5, 0, none⟩) n c5) ∧ w'.cell? ⟨g, k * 2, none⟩ = some (.int .i64 m1)) (go_keep) (fail)
    have HB8 : Hid (∀ w', Below w'.heap.size w' w'.drew) := fun w' => below_drewN (Below.refl _ w') 1
    go_wp2_with fail
    refine bodyPost_ret (v := .tuple #[.agg #[.slice (some ⟨g, 0, none⟩) n c, .slice (some ⟨g5, 0, none⟩) n c5], .int .i64 m1]) (results_row_tmp rfl _ _ (N + 1) _ _ _ _ rfl (drew_heap HDN.out.1) Try.underlying32 rfl (Try.sizeRef _ _) _ rfl) rfl ?_
    exact ⟨_, _, rfl, HDN.out.2.1.below (HB8.out _), HDN.out.2.2.trans ((HB8.out _).mono HDN.out.2.2.size)⟩
end Go.Proofs.Ytngfcgegondmgaa
