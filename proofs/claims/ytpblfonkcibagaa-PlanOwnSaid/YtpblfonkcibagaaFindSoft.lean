/-
  Find once more: what it answers lies in memory of its own that is not frozen.
  Conditions: the slice reads as places.
-/
import Derived.Test.YtpblfonkcibagaaFindP
set_option linter.unusedVariables false
namespace Go.Proofs.Ytpblfonkcibagaa
open Go.RowKit

/-- A block of cells that is not frozen. -/
def Soft (W : World) (b : Nat) : Prop := ∃ cs t, W.heap[b]? = some (.cells cs t (0, 0))
theorem PcsIn.soft_keep {B : Nat} {W W' : World} {v : Value} {ps : List Pc} (h : PcsIn (fun b => B ≤ b ∧ Soft W b) W v ps) (hs : W.heap.size ≤ W'.heap.size) (hk : ∀ b, b < W.heap.size → B ≤ b → W'.heap[b]? = W.heap[b]?) : PcsIn (fun b => B ≤ b ∧ Soft W' b) W' v ps := by
  obtain ⟨A, c, h1, h2, h3, h4⟩ := h
  refine ⟨A, c, h1, h2, h3, fun hn => ?_⟩
  obtain ⟨b, off, e, hlt, ⟨hB, cs, t, hc⟩, hat⟩ := h4 hn
  exact ⟨b, off, e, Nat.lt_of_lt_of_le hlt hs, ⟨hB, cs, t, (hk b hlt hB).trans hc⟩, fun j y hy => (hat j y hy).keep (hk b hlt hB)⟩
theorem pcs_soft {W : World} {base : Nat} {v : Value} {ps : List Pc} (h : W.ownsRow base 54 2 v ps.length (pcsCells ps)) : PcsIn (fun b => base ≤ b ∧ Soft W b) W v ps := by
  obtain ⟨A, c, e, h1, h2, h3⟩ := pcs_of_own h
  refine ⟨A, c, e, h1, h2, fun h0 => ?_⟩
  obtain ⟨b, off, eA, hb, hB, hc⟩ := h3 h0
  refine ⟨b, off, eA, hb, ⟨hB, ?_⟩, hc⟩
  rcases h.2 with ⟨h4, h5⟩ | ⟨g, cap, cur, h4, _, hh, _⟩
  · omega
  · rw [e, eA] at h4
    injection h4 with h4
    injection h4 with h4
    injection h4 with h4
    subst h4
    exact ⟨_, _, hh⟩
def RetPcsS (ps : List Pc) (w : World) (e : Ending) (w' : World) : Prop := ∃ v, e = .returned v ∧ PcsIn (fun b => w.heap.size ≤ b ∧ Soft w' b) w' v ps ∧ Below w.heap.size w w'
def RetPlS (x : Pl) (w : World) (e : Ending) (w' : World) : Prop := ∃ v, e = .returned (plA v x) ∧ PcsIn (fun b => w.heap.size ≤ b ∧ Soft w' b) w' v x.ps ∧ Below w.heap.size w w'
def RetFindS (o : Option Pl) (w : World) (e : Ending) (w' : World) : Prop :=
  ∃ v, e = .returned (.tuple #[plA v (o.getD zeroPl), .bool o.isSome]) ∧ PcsIn (fun b => w.heap.size ≤ b ∧ Soft w' b) w' v (o.getD zeroPl).ps ∧ Below w.heap.size w w'

set_option maxRecDepth 100000 in
set_option maxHeartbeats 2000000 in
theorem clonePcs_soft (v : Value) (ps : List Pc) (w : World) (h : PcsAt w v ps) (hl : ps.length ≤ 1000) : Calls Try.prog 70 #[v] w (RetPcsS ps w) := by
  obtain ⟨A, c, rfl, hc1, hc2, hat⟩ := h
  have q22 : ∀ (w : World) (a : Option Addr) (n c n' c' : Nat), (binOp .eql 31 (.slice a n c) (.slice none n' c')).run Try.prog w = .ok (.bool a.isNone) w := fun w a n c n' c' => Lib.run_eql_slice_nil w _ _ a n c n' c' Try.underlying31
  rcases A with _ | a
  · have : ps = [] := by
      rcases Nat.eq_zero_or_pos ps.length with h | h
      · exact List.eq_nil_of_length_eq_zero h
      · obtain ⟨b, off, e, _⟩ := hat h; cases e
    subst this
    clear hat
    go_enter Try.func70, Try.ntmps70
    go_wp2
    go_ret
    exact ⟨_, rfl, PcsIn.nil _ _, Below.refl _ _⟩
  · have hb : Below w.heap.size w (w.alloc (.cells #[] 54)) := (Below.refl _ w).alloc (Nat.le_refl _) _
    have hlit := World.ownsRow_lit (base := w.heap.size) (e := 54) (size := 2) w #[] 0 (Nat.le_refl _) (by unfold maxLen; omega) rfl
    obtain ⟨i, hi, hz0, hz1, hz2⟩ := info_parts Try.infoPc
    have HLIT := Lib.hid hlit
    have HB := Lib.hid hb
    have hcell : Hid (∀ j u, (pcsCells ps)[j]? = some u → (w.alloc (.cells #[] 54)).cell? (a.add j) = some u) := Lib.hid (fun j u hj => by
      have hj' : j < ps.length * 2 := by rw [← pcsCells_length]; exact (List.getElem?_eq_some_iff.1 hj).1
      obtain ⟨b, off, e, hlt, _, hc⟩ := hat (by omega)
      cases e
      rw [Addr.add_lit]
      exact (hb.cell (p := ⟨b, off + j, none⟩) hlt).trans (pcsCells_of ps hc j u hj))
    generalize hn : ps.length = n at *
    have HN := Lib.hid hn
    have HI := Lib.hid hi
    have HLEN := Lib.hid (show (pcsCells ps).length = n * 2 by rw [pcsCells_length]; omega)
    have HONE := Lib.hid (pcsCells_one ps)
    have HMX := Lib.hid (show 0 + n ≤ maxLen by unfold maxLen; omega)
    have HBY := Lib.hid (show (0 + n) * 16 ≤ 140737488355328 by omega)
    have HBS := Lib.hid (show w.heap.size ≤ (w.alloc (.cells #[] 54)).heap.size by simp)
    clear hat hlit hb hn
    go_enter Try.func70, Try.ntmps70
    go_wp2_with (at_builtin; refine wpList_append_own _ rfl _ _ 31 rfl w.heap.size 54 i (.agg #[.int .i64 0, .int .u64 0]) 2 16 Try.underlying31 HI.out hz0 hz1 hz2 rfl (by decide) _ 0 [] rfl HLIT.out a n _ (pcsCells ps) rfl HLEN.out hcell.out HONE.out HMX.out HBY.out HBS.out ?_)
    intro v2 w2 hown2 hg2 _
    have HO2 := Lib.hid hown2
    have HB2 := Lib.hid (HB.out.trans ((Below.refl w.heap.size _).grown hg2 (by simp) (fun k hk => by cases hk; exact Nat.le_refl _)))
    clear hown2 hg2
    go_wp2
    go_ret
    have h := HO2.out
    rw [← HN.out] at h
    exact ⟨_, rfl, pcs_soft h, HB2.out⟩

set_option maxRecDepth 100000 in
set_option maxHeartbeats 2000000 in
theorem clonePl_soft (v : Value) (x : Pl) (w : World) (h : PcsAt w v x.ps) (hl : x.ps.length ≤ 1000) :
    Calls Try.prog 48 #[plA v x] w (RetPlS x w) := by
  obtain ⟨w1, P, hw1, hP, hPl, hb1, hbox⟩ := box_any w #[.int .i64 x.u, .int .i64 x.s, .int .i64 x.c, v] 33
  obtain ⟨w2, N, hw2, hN, hNl, hb2, hnb⟩ := box_any w1 #[.int .i64 0, .int .i64 0, .int .i64 0, .slice none 0 0] 33
  have HB2 := Lib.hid (hb1.trans (hb2.mono hb1.size))
  have HC := Lib.hid (clonePcs_soft v x.ps w2 (h.keep HB2.out) hl)
  have HPB := Lib.hid (keep_block hbox hb2)
  have HNB := Lib.hid hnb
  obtain ⟨p0, p1, p2, p3⟩ := four_heads HPB.out
  have HLT := Lib.hid (show w.heap.size ≤ P ∧ P < N ∧ N < w2.heap.size by have := hb1.size; omega)
  clear h hb1 hb2 hbox hnb
  unfold plA
  go_enter Try.func48, Try.ntmps48
  go_wp2_with fail
  refine HC.out.mono ?_
  rintro e w3 ⟨v', rfl, hps, hb3⟩
  have HPS := Lib.hid hps
  have HB3 := Lib.hid (HB2.out.trans (hb3.mono HB2.out.size))
  have HP3 := Lib.hid (keep_block HPB.out hb3)
  have HN3 := Lib.hid (keep_block HNB.out hb3)
  have HLT3 := Lib.hid (show N < w3.heap.size by have := HLT.out; have := hb3.size; omega)
  have HF2 := Lib.hid (show w2.heap.size ≤ w3.heap.size from hb3.size)
  have HP4 : Hid ((w3.setCell ⟨P, 3, none⟩ v').heap[P]? = some (.cells #[.int .i64 x.u, .int .i64 x.s, .int .i64 x.c, v'] 33 (0, 0))) := heap_setCell_mem _ _ _ _ _ _ _ HP3.out
  have HN4 : Hid ((w3.setCell ⟨P, 3, none⟩ v').heap[N]? = some (.cells #[.int .i64 0, .int .i64 0, .int .i64 0, .slice none 0 0] 33 (0, 0))) := (Below.heap_setCell _ _ _ _ (show N ≠ P by have := HLT.out; omega)).trans HN3.out
  obtain ⟨w4, hw4⟩ : ∃ w4, w3.setCell ⟨P, 3, none⟩ v' = w4 := ⟨_, rfl⟩
  have HB4 : Hid (Below w.heap.size w w4) := by rw [← hw4]; exact HB3.out.setCell (p := ⟨P, 3, none⟩) HLT.out.1 _
  have HPS4 : Hid (PcsIn (fun b => w.heap.size ≤ b ∧ Soft (w4.setRow N #[.int .i64 x.u, .int .i64 x.s, .int .i64 x.c, v']) b) (w4.setRow N #[.int .i64 x.u, .int .i64 x.s, .int .i64 x.c, v']) v' x.ps) := by
    have h1 := HLT.out
    refine (HPS.out.soft_keep (by rw [← hw4]; simp [World.setCell]) fun b hb hF => ?_).mono fun b _ hF => ⟨by have := HB2.out.size; have := hF.1; omega, hF.2⟩
    have h2 : b ≠ P ∧ b ≠ N := by omega
    rw [← hw4]
    exact (setRow_other _ _ _ _ h2.2).trans (Below.heap_setCell _ _ _ _ h2.1)
  rw [hw4] at HP4 HN4
  obtain ⟨r0, r1, r2, r3⟩ := four_heads HP4.out
  obtain ⟨s0, s1, s2, s3⟩ := four_heads HP3.out
  obtain ⟨f3⟩ : w3.frozen? ⟨P, 3, none⟩ = false ∧ True := ⟨by have e := HP3.out; simp [World.frozen?, e], trivial⟩
  obtain ⟨A', d', hv'⟩ := HPS.out.form
  subst hv'
  clear hps hb3 p0 p1 p2 p3 hw1 hP hw2
  go_wp2_with (refine wpList_store_row rfl _ _ _ rfl N #[.int .i64 x.u, .int .i64 x.s, .int .i64 x.c, .slice A' x.ps.length d'] rfl rfl 33 _ HN4.out (Try.sizePl _ _ _ _) rfl (one4 _ _ _ _ _ _) ?_)
  refine bodyPost_ret (v := .agg #[.int .i64 x.u, .int .i64 x.s, .int .i64 x.c, .slice A' x.ps.length d']) (results_cell_row rfl _ _ N _ _ _ _ rfl (setRow_heap _ _ _ _ _ _ HN4.out) Try.underlying33 rfl (Try.sizePl _ _ _ _)) rfl ?_
  exact ⟨_, rfl, HPS4.out, below_row16 HB4.out (by have := HLT.out; omega) _⟩
set_option maxRecDepth 100000 in
set_option maxHeartbeats 4000000 in
theorem find_soft (f : Int) (m : Nat) (v : Value) (l : List Pl) (u : Int) (w : World) (h : PlsAt w v l) (hl : l.length ≤ 1000) (hp : ∀ x ∈ l, x.ps.length ≤ 1000) :
    Calls Try.prog 13 #[planA f m v, .int .i64 u] w (RetFindS (findU l u) w) := by
  have HL := Lib.hid h
  have HPL := Lib.hid hp
  obtain ⟨A, cA, rfl, hlc, hcm⟩ := h.form
  obtain ⟨n, hn⟩ : ∃ n, l.length = n := ⟨_, rfl⟩
  rw [hn] at HL hlc hl ⊢
  have HN := Lib.hid hn
  obtain ⟨w1, P, hw1, hP, hPl, hb1, hbox⟩ := box_any w #[.int .i64 f, .int .u32 m, .slice A n cA] 25
  obtain ⟨w2, U, hw2, hU, hUl, hb2, hub⟩ := box_any w1 #[.int .i64 u] 3
  obtain ⟨w3, R, hw3, hR, hRl, hb3, hrb⟩ := box_any w2 #[.int .i64 0, .int .i64 0, .int .i64 0, .slice none 0 0] 33
  have HB2 := Lib.hid (hb1.trans (hb2.mono hb1.size))
  have HB3 := Lib.hid (HB2.out.trans (hb3.mono HB2.out.size))
  have HPB := Lib.hid (keep_block (keep_block hbox hb2) hb3)
  have HRB := Lib.hid hrb
  have hU3 : U < w3.heap.size := Nat.lt_of_lt_of_le hUl hb3.size
  have hu0 : w3.cell? ⟨U, 0, none⟩ = some (.int .i64 u) := by
    have e := keep_block hub hb3
    simp [World.cell?, e]
  have HI := Lib.hid (indexPl_any (.slice A n cA) l u U w3 (HL.out.keep HB3.out) hU3 hu0)
  have HLT := Lib.hid (show w.heap.size ≤ P ∧ P < U ∧ U < R ∧ R < w3.heap.size by have := hb1.size; have := hb2.size; omega)
  obtain ⟨p0, p1, p2⟩ := three_heads HPB.out
  clear h hp hn hb1 hb2 hb3 hbox hub hrb
  unfold planA
  go_enter Try.func13, Try.ntmps13
  go_wp2_with fail
  refine HI.out.mono ?_
  rintro e w4 ⟨r, rfl, hr, hb4⟩
  have HB4 := Lib.hid (HB3.out.trans (hb4.mono HB3.out.size))
  have HP4 := Lib.hid (keep_block HPB.out hb4)
  have HR4 := Lib.hid (keep_block HRB.out hb4)
  clear hb4 p0 p1 p2 hw1 hP hw2 hU hw3 hu0
  rcases hr with ⟨rfl, hnone⟩ | ⟨k, x, rfl, hx, hfound⟩
  · have HE := Lib.hid hnone
    clear hnone
    go_wp2_with (refine wpList_store_row rfl _ _ _ rfl R #[.int .i64 0, .int .i64 0, .int .i64 0, .slice none 0 0] rfl rfl 33 _ HR4.out (Try.sizePl _ _ _ _) rfl (one4 _ _ _ _ _ _) ?_)
    refine bodyPost_ret (v := .tuple #[.agg #[.int .i64 0, .int .i64 0, .int .i64 0, .slice none 0 0], .bool false]) (results_row_tmp rfl _ _ R _ _ _ _ rfl (setRow_heap _ _ _ _ _ _ HR4.out) Try.underlying33 rfl (Try.sizePl _ _ _ _) _ rfl) rfl ?_
    rw [HE.out]
    exact ⟨_, rfl, PcsIn.nil _ _, below_row16 HB4.out (by have := HLT.out; omega) _⟩
  · have HE := Lib.hid hfound
    have HX := Lib.hid hx
    have hkn : k < n := by have := (List.getElem?_eq_some_iff.1 hx).1; have := HN.out; omega
    have hknz : (k : Int) < (n : Int) := by omega
    have hk0 : (0 : Int) ≤ (k : Int) := by omega
    have hkd : decide ((k : Int) < 0) = false := decide_eq_false (by omega)
    obtain ⟨b, off, B, d, hA, hbl, _, ⟨c0, c1, c2, c3⟩, hps⟩ := (HL.out.keep HB4.out).at_ hx
    subst hA
    simp only at c0 c1 c2 c3
    have HC := Lib.hid (clonePl_soft (.slice B x.ps.length d) x w4 hps (HPL.out x (List.mem_of_getElem? hx)))
    unfold plA at HC
    obtain ⟨r0, r1, r2⟩ := three_heads HP4.out
    clear hx hfound hps
    go_wp2_with fail
    refine HC.out.mono ?_
    rintro e w5 ⟨v', rfl, hps5, hb5⟩
    have HPS := Lib.hid hps5
    have HB5 := Lib.hid (HB4.out.trans (hb5.mono HB4.out.size))
    have HR5 := Lib.hid (keep_block HR4.out hb5)
    have HS4 := Lib.hid (show R < w4.heap.size from heap_lt HR4.out)
    obtain ⟨A', d', hv'⟩ := hps5.form
    subst hv'
    clear hb5 hps5 r0 r1 r2
    unfold plA
    go_wp2_with (refine wpList_store_row rfl _ _ _ rfl R #[.int .i64 x.u, .int .i64 x.s, .int .i64 x.c, .slice A' x.ps.length d'] rfl rfl 33 _ HR5.out (Try.sizePl _ _ _ _) rfl (one4 _ _ _ _ _ _) ?_)
    refine bodyPost_ret (v := .tuple #[.agg #[.int .i64 x.u, .int .i64 x.s, .int .i64 x.c, .slice A' x.ps.length d'], .bool true]) (results_row_tmp rfl _ _ R _ _ _ _ rfl (setRow_heap _ _ _ _ _ _ HR5.out) Try.underlying33 rfl (Try.sizePl _ _ _ _) _ rfl) rfl ?_
    rw [HE.out]
    refine ⟨_, rfl, ?_, below_row16 HB5.out (by have := HLT.out; omega) _⟩
    exact (HPS.out.soft_keep (by simp) fun b hb hF => setRow_other _ _ _ _ (by have := HS4.out; omega)).mono fun b _ hF => ⟨Nat.le_trans HB4.out.size hF.1, hF.2⟩

end Go.Proofs.Ytpblfonkcibagaa
