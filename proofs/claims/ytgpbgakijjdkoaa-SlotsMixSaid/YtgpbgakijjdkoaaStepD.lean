/-
  step of the law: further calls.
  Conditions: both tables lie in memory, and agree.
-/
import Derived.Test.YtgpbgakijjdkoaaStep
set_option linter.unusedVariables false
namespace Go.Proofs.Ytgpbgakijjdkoaa
open Go.RowKit TI

set_option maxRecDepth 100000 in
set_option maxHeartbeats 16000000 in
theorem step_take_none (B : Nat) (W0 W : World) (tb : Nat) (sv fv : Value) (s : Ts Int) (b c : Nat) (r : Rs) (kind id g x : Int) (st : Both B W0 W tb sv fv s b c r) (hk5 : r.clk ≤ 1000) (hk : kind = 0 ∨ kind = 1) (hw : whichT r r.n = 0) (ht : ∀ w tb sv fv, TabAt w tb sv fv s → Calls Try.prog 19 #[.pointer (some ⟨tb, 0, none⟩), .int .i64 x] w (RetB (.tuple #[.int .i64 0, .int .i64 0, .int .i64 13]) w)) :
    Calls Try.prog 9 #[.pointer (some ⟨tb, 0, none⟩), refV b c r, .agg #[.int .i64 kind, .int .i64 id, .int .i64 g, .int .i64 x]] W (StepPost B W0 W tb sv fv s.n r.clk) := by
  unfold refV
  obtain ⟨w0, hw0⟩ : ∃ w0, ((W.alloc (.cells #[.slice (some ⟨b, 0, none⟩) r.n c, .int .i64 r.clk] 30)).alloc (.cells #[.int .i64 kind, .int .i64 id, .int .i64 g, .int .i64 x] 35)).alloc (.cells #[.slice none 0 0, .int .i64 0] 30) = w0 := ⟨_, rfl⟩
  have HB0 := Lib.hid (show Below W.heap.size W w0 by rw [← hw0]; exact (((Below.refl _ _).alloc (Nat.le_refl _) _).alloc (by rw [World.size_alloc]; omega) _).alloc (by rw [World.size_alloc, World.size_alloc]; omega) _)
  have hs0 : w0.heap.size = W.heap.size + 3 := by rw [← hw0, World.size_alloc, World.size_alloc, World.size_alloc]
  have hnew := fun j => by have := three_new W #[.slice (some ⟨b, 0, none⟩) r.n c, .int .i64 r.clk] #[.int .i64 kind, .int .i64 id, .int .i64 g, .int .i64 x] #[.slice none 0 0, .int .i64 0] 30 35 30 j; rw [hw0] at this; exact this
  have ho := heap_alloc_new ((W.alloc (.cells #[.slice (some ⟨b, 0, none⟩) r.n c, .int .i64 r.clk] 30)).alloc (.cells #[.int .i64 kind, .int .i64 id, .int .i64 g, .int .i64 x] 35)) (.cells #[.slice none 0 0, .int .i64 0] 30)
  rw [hw0, World.size_alloc, World.size_alloc] at ho
  have ST := Lib.hid st
  have ST0 := Lib.hid (st.below HB0.out)
  have HF := Lib.hid st.few
  have g0 := (hnew 0).1
  have g1 := (hnew 1).1
  have a0 := (hnew 0).2.1
  have a1 := (hnew 1).2.1
  have a2 := (hnew 2).2.1
  have a3 := (hnew 3).2.1
  simp only [List.getElem?_toArray, List.getElem?_cons_zero, List.getElem?_cons_succ] at g0 g1 a0 a1 a2 a3
  obtain ⟨n, hnn⟩ : ∃ n, r.n = n := ⟨_, rfl⟩
  have HNN := Lib.hid hnn
  obtain ⟨clk, hck⟩ : ∃ n, r.clk = n := ⟨_, rfl⟩
  have HCK := Lib.hid hck
  obtain ⟨p, hp⟩ : ∃ p, W.heap.size = p := ⟨_, rfl⟩
  have HP := Lib.hid hp
  have HNF := Lib.hid (show ∀ k, p ≤ k → ¬ Foot tb sv fv k from fun k hk hf => by have := st.held.lies.foot hf; omega)
  rw [hp] at g0 g1 a0 a1 a2 a3 ho hs0
  have HO := Lib.hid ho
  have HW0 := Lib.hid hs0
  have l0 : p < w0.heap.size := by omega
  have l1 : p + 1 < w0.heap.size := by omega
  have l2 : p + 1 + 1 < w0.heap.size := by omega
  have HL0 := Lib.hid l0
  have HL1 := Lib.hid l1
  have HL2 := Lib.hid l2
  have HK5 := Lib.hid hk5
  rw [hnn] at g0 hw0
  rw [hck] at g1 hw0 hk5
  have HBX := Lib.hid (show Boxes p b n c clk kind id g x w0 from ⟨l2, g0, g1, a0, a1, a2, a3, HO.out⟩)
  have hrt := refTake_none w0 b c r x ST0.out.side.at_ HF.out hw
  unfold refV at hrt
  rw [hnn, hck] at hrt
  have HRT := Lib.hid hrt
  have HTK := Lib.hid ht
  have HK := Lib.hid hk
  clear hw ht hrt
  rw [hnn, hck]
  clear hnew hnn hck ho hs0 st
  go_enter Try.func9, Try.ntmps9
  go_upto_region 1 with fail
  clear hw0 hp hk
  rcases HK.out with rfl | rfl
  all_goals
    go_wp2_with fail
    refine HRT.out.mono ?_
    rintro e w1 ⟨rfl, hb1⟩
    have HB1 := Lib.hid hb1
    have HBX1 := Lib.hid (HBX.out.below hb1)
    clear hb1 l0 l1 l2 g0 g1 a0 a1 a2 a3
    obtain ⟨l2, g0, g1, a0, a1, a2, a3, _⟩ := HBX1.out
    obtain ⟨o0, o1, of0, of1⟩ := HBX1.out.outs
    have l1 : p + 1 < _ := Nat.lt_of_succ_lt l2
    have l0 : p < _ := Nat.lt_of_succ_lt l1
    go_wp2_with fail
    generalize hw2 : w1.alloc (.cells #[.slice (some ⟨b, 0, none⟩) n c, .int .i64 clk] 30) = w2
    have HB12 := Lib.hid (show Below w1.heap.size w1 w2 by rw [← hw2]; exact (Below.refl _ _).alloc (Nat.le_refl _) _)
    have v0 : w2.cell? ⟨w1.heap.size, 0, none⟩ = some (.slice (some ⟨b, 0, none⟩) n c) := by rw [← hw2, World.cell?_alloc_new]; rfl
    have v1 : w2.cell? ⟨w1.heap.size, 1, none⟩ = some (.int .i64 clk) := by rw [← hw2, World.cell?_alloc_new]; rfl
    have vl : w1.heap.size < w2.heap.size := by rw [← hw2, World.size_alloc]; omega
    have HB2 := Lib.hid (HB1.out.trans (HB12.out.mono HB1.out.size))
    clear hw2
    refine (HTK.out w2 tb sv fv (ST0.out.held.lies.below HB2.out)).mono ?_
    rintro e w3 ⟨rfl, hb3⟩
    have HB3 := Lib.hid (HB2.out.trans (hb3.mono HB2.out.size))
    have v0 := (hb3.cell (p := ⟨w1.heap.size, 0, none⟩) vl).trans v0
    have v1 := (hb3.cell (p := ⟨w1.heap.size, 1, none⟩) vl).trans v1
    have HBX3 := Lib.hid (HBX.out.below HB3.out)
    clear hb3 l0 l1 l2 g0 g1 a0 a1 a2 a3 o0 o1 of0 of1
    obtain ⟨l2, g0, g1, a0, a1, a2, a3, _⟩ := HBX3.out
    obtain ⟨o0, o1, of0, of1⟩ := HBX3.out.outs
    have l1 : p + 1 < _ := Nat.lt_of_succ_lt l2
    have l0 : p < _ := Nat.lt_of_succ_lt l1
    go_wp2_with fail
    have hres := two_set HBX3.out.ho (.slice (some ⟨b, 0, none⟩) n c) (.int .i64 clk)
    refine bodyPost_ret (v := .tuple #[.agg #[.slice (some ⟨b, 0, none⟩) n c, .int .i64 clk], .bool true]) (results_row_tmp rfl _ _ (p + 1 + 1) _ _ _ _ rfl hres Try.underlying30 rfl (Try.sizeTable _ _) _ rfl) rfl ?_
    have hle : W.heap.size ≤ p + 1 + 1 := by rw [HP.out]; omega
    have hbel : Below W.heap.size W ((w3.setCell ⟨p + 1 + 1, 0, none⟩ (.slice (some ⟨b, 0, none⟩) n c)).setCell ⟨p + 1 + 1, 1, none⟩ (.int .i64 clk)) := ((HB0.out.trans (HB3.out.mono HB0.out.size)).setCell (p := ⟨p + 1 + 1, 0, none⟩) hle _).setCell (p := ⟨p + 1 + 1, 1, none⟩) hle _
    refine ⟨sv, fv, s, b, c, r, ?_, ST.out.below hbel, rfl, by rw [HCK.out]; omega, Apart.of_below hbel, Grew.refl _ _, Grew.refl _ _⟩
    unfold refV
    rw [HNN.out, HCK.out]

set_option maxRecDepth 100000 in
set_option maxHeartbeats 16000000 in
theorem step_take_some (B : Nat) (W0 W : World) (tb : Nat) (sv fv : Value) (s : Ts Int) (b c : Nat) (r : Rs) (kind id g x : Int) (st : Both B W0 W tb sv fv s b c r) (hk5 : r.clk ≤ 1000) (s1 : Ts Int) (i : Nat) (hk : kind = 0 ∨ kind = 1) (hi : i < r.n) (hw : whichT r r.n = i + 1) (ho1 : Okay s1) (hag : Agree s1 (takeR r (i + 1) x)) (hsn : s1.n = s.n) (ht : ∀ w tb sv fv, TabAt w tb sv fv s → Calls Try.prog 19 #[.pointer (some ⟨tb, 0, none⟩), .int .i64 x] w (MutPost w tb sv fv (.tuple #[.int .i64 ((i + 1 : Nat) : Int), .int .i64 ((r.fd i + 1 : Nat) : Int), .int .i64 0]) s1)) :
    Calls Try.prog 9 #[.pointer (some ⟨tb, 0, none⟩), refV b c r, .agg #[.int .i64 kind, .int .i64 id, .int .i64 g, .int .i64 x]] W (StepPost B W0 W tb sv fv s.n r.clk) := by
  unfold refV
  obtain ⟨w0, hw0⟩ : ∃ w0, ((W.alloc (.cells #[.slice (some ⟨b, 0, none⟩) r.n c, .int .i64 r.clk] 30)).alloc (.cells #[.int .i64 kind, .int .i64 id, .int .i64 g, .int .i64 x] 35)).alloc (.cells #[.slice none 0 0, .int .i64 0] 30) = w0 := ⟨_, rfl⟩
  have HB0 := Lib.hid (show Below W.heap.size W w0 by rw [← hw0]; exact (((Below.refl _ _).alloc (Nat.le_refl _) _).alloc (by rw [World.size_alloc]; omega) _).alloc (by rw [World.size_alloc, World.size_alloc]; omega) _)
  have hs0 : w0.heap.size = W.heap.size + 3 := by rw [← hw0, World.size_alloc, World.size_alloc, World.size_alloc]
  have hnew := fun j => by have := three_new W #[.slice (some ⟨b, 0, none⟩) r.n c, .int .i64 r.clk] #[.int .i64 kind, .int .i64 id, .int .i64 g, .int .i64 x] #[.slice none 0 0, .int .i64 0] 30 35 30 j; rw [hw0] at this; exact this
  have ho := heap_alloc_new ((W.alloc (.cells #[.slice (some ⟨b, 0, none⟩) r.n c, .int .i64 r.clk] 30)).alloc (.cells #[.int .i64 kind, .int .i64 id, .int .i64 g, .int .i64 x] 35)) (.cells #[.slice none 0 0, .int .i64 0] 30)
  rw [hw0, World.size_alloc, World.size_alloc] at ho
  have ST := Lib.hid st
  have ST0 := Lib.hid (st.below HB0.out)
  have HF := Lib.hid st.few
  have g0 := (hnew 0).1
  have g1 := (hnew 1).1
  have a0 := (hnew 0).2.1
  have a1 := (hnew 1).2.1
  have a2 := (hnew 2).2.1
  have a3 := (hnew 3).2.1
  simp only [List.getElem?_toArray, List.getElem?_cons_zero, List.getElem?_cons_succ] at g0 g1 a0 a1 a2 a3
  obtain ⟨n, hnn⟩ : ∃ n, r.n = n := ⟨_, rfl⟩
  have HNN := Lib.hid hnn
  obtain ⟨clk, hck⟩ : ∃ n, r.clk = n := ⟨_, rfl⟩
  have HCK := Lib.hid hck
  obtain ⟨p, hp⟩ : ∃ p, W.heap.size = p := ⟨_, rfl⟩
  have HP := Lib.hid hp
  have HNF := Lib.hid (show ∀ k, p ≤ k → ¬ Foot tb sv fv k from fun k hk hf => by have := st.held.lies.foot hf; omega)
  rw [hp] at g0 g1 a0 a1 a2 a3 ho hs0
  have HO := Lib.hid ho
  have HW0 := Lib.hid hs0
  have l0 : p < w0.heap.size := by omega
  have l1 : p + 1 < w0.heap.size := by omega
  have l2 : p + 1 + 1 < w0.heap.size := by omega
  have HL0 := Lib.hid l0
  have HL1 := Lib.hid l1
  have HL2 := Lib.hid l2
  have HK5 := Lib.hid hk5
  rw [hnn] at g0 hw0
  rw [hck] at g1 hw0 hk5
  have HBX := Lib.hid (show Boxes p b n c clk kind id g x w0 from ⟨l2, g0, g1, a0, a1, a2, a3, HO.out⟩)
  have hn1 := HF.out.n1
  have bfd := HF.out.fd i hi
  obtain ⟨q, hq⟩ : ∃ q, i + 1 = q := ⟨_, rfl⟩
  obtain ⟨gq, hgq⟩ : ∃ y, r.fd i + 1 = y := ⟨_, rfl⟩
  have hrt := refTake_some w0 b c r i x ST0.out.side.at_ HF.out hi hw
  unfold refV at hrt
  rw [hnn, hck, hq] at hrt
  have HRT := Lib.hid hrt
  rw [hq, hgq] at ht
  have HTK := Lib.hid ht
  have HSN := Lib.hid hsn
  have HOK := Lib.hid ho1
  rw [hq] at hag
  have HAG := Lib.hid hag
  have HIR := Lib.hid (show i < (takeR r q x).n from hi)
  have HCLK := Lib.hid (show (takeR r q x).clk ≤ 5000 from by show r.clk + 1 ≤ 5000; rw [hck]; omega)
  have HCLK2 := Lib.hid (show (takeR r q x).clk = clk + 1 from by show r.clk + 1 = clk + 1; rw [hck])
  obtain ⟨x1, hx1⟩ : ∃ y, (takeR r q x).X i = y := ⟨_, rfl⟩
  obtain ⟨t1, ht1⟩ : ∃ y, (takeR r q x).tk i = y := ⟨_, rfl⟩
  obtain ⟨fd1, hfd1⟩ : ∃ y, (takeR r q x).fd i = y := ⟨_, rfl⟩
  obtain ⟨wh1, hwh1⟩ : ∃ y, (takeR r q x).wh i = y := ⟨_, rfl⟩
  have hfq : fd1 + 1 = gq := by rw [← hfd1, ← hgq]; rfl
  have HGEN := Lib.hid (show ∀ w, Calls Try.prog 17 #[.agg #[.int .i64 x1, .bool t1, .int .i64 fd1, .int .i64 wh1]] w (RetB (.int .i64 gq) w) from fun w => by
    rw [← hfq]
    exact gen_any w x1 t1 fd1 wh1 (by rw [← hfd1]; exact bfd))
  obtain ⟨r1, hr1⟩ : ∃ y, takeR r q x = y := ⟨_, rfl⟩
  rw [hr1] at hx1 ht1 hfd1 hwh1 hrt hag HRT HAG HIR HCLK HCLK2
  obtain ⟨pn, hpn⟩ : ∃ y, r1.n = y := ⟨_, rfl⟩
  obtain ⟨pc, hpc⟩ : ∃ y, r1.clk = y := ⟨_, rfl⟩
  have HPN := Lib.hid hpn
  have HPC := Lib.hid hpc
  have HX1 := Lib.hid hx1
  have HT1 := Lib.hid ht1
  have HFD1 := Lib.hid hfd1
  have HWH1 := Lib.hid hwh1
  have hipn : i < pn := by rw [← hpn]; exact HIR.out
  have bi : i ≤ 100000 := by omega
  have y1 : (q : Int) - 1 = (i : Int) := by omega
  have y2 : (i : Int) < (pn : Int) := Int.ofNat_lt.2 hipn
  have z4 : ((q : Int) == 0) = false := by simp; omega
  have y3 : wrap64 (i : Int) = (i : Int) := wrap64_nat bi
  have y4 : IntKind.i64.wrap (i : Int) = (i : Int) := by rw [IntKind.wrap_i64]; unfold wrap64 at y3; exact y3
  have HK := Lib.hid hk
  clear hw ht hrt hag hsn ho1 hn1 bfd hq hgq hx1 ht1 hfd1 hwh1 hfq hr1 hpn hpc hipn bi hi
  rw [hnn, hck]
  clear hnew hnn hck ho hs0 st
  go_enter Try.func9, Try.ntmps9
  go_upto_region 1 with fail
  clear hw0 hp hk
  rcases HK.out with rfl | rfl
  all_goals
    go_wp2_with fail
    refine HRT.out.mono ?_
    rintro e w1 ⟨bb, cc, rfl, hcap, href, hge, hb1⟩
    have HCAP := Lib.hid hcap
    have HREF1 := Lib.hid href
    have HGE1 := Lib.hid hge
    have HB1 := Lib.hid hb1
    have HBX1 := Lib.hid (HBX.out.below hb1)
    unfold refV
    rw [HPN.out, HPC.out]
    clear hcap href hge hb1 l0 l1 l2 g0 g1 a0 a1 a2 a3
    obtain ⟨l2, g0, g1, a0, a1, a2, a3, _⟩ := HBX1.out
    obtain ⟨o0, o1, of0, of1⟩ := HBX1.out.outs
    have l1 : p + 1 < _ := Nat.lt_of_succ_lt l2
    have l0 : p < _ := Nat.lt_of_succ_lt l1
    go_wp2_with fail
    generalize hw2 : w1.alloc (.cells #[.slice (some ⟨bb, 0, none⟩) pn cc, .int .i64 pc] 30) = w2
    have HB12 := Lib.hid (show Below w1.heap.size w1 w2 by rw [← hw2]; exact (Below.refl _ _).alloc (Nat.le_refl _) _)
    obtain ⟨vb, hvb⟩ : ∃ y, w1.heap.size = y := ⟨_, rfl⟩
    have v0 : w2.cell? ⟨vb, 0, none⟩ = some (.slice (some ⟨bb, 0, none⟩) pn cc) := by rw [← hvb, ← hw2, World.cell?_alloc_new]; rfl
    have v1 : w2.cell? ⟨vb, 1, none⟩ = some (.int .i64 pc) := by rw [← hvb, ← hw2, World.cell?_alloc_new]; rfl
    have vl : vb < w2.heap.size := by rw [← hvb, ← hw2, World.size_alloc]; omega
    have hpv : w0.heap.size ≤ vb := by rw [← hvb]; exact HB1.out.size
    have HPV := Lib.hid hpv
    have HB2 := Lib.hid (HB1.out.trans (HB12.out.mono HB1.out.size))
    have HH2 := Lib.hid (ST0.out.held.below HB2.out)
    have HBX2 := Lib.hid (HBX1.out.below HB12.out)
    have HREF2 := Lib.hid (HREF1.out.below HB12.out)
    rw [hvb]
    clear hw2 hvb
    refine (HTK.out w2 tb sv fv HH2.out.lies).mono ?_
    rintro e w3 hm
    obtain ⟨sv1, fv1, rfl, hh3, ha3, hg1, hg2⟩ := HH2.out.mut HOK.out hm
    have HH3 := Lib.hid hh3
    have hnv : ¬ Foot tb sv fv vb := HNF.out vb (by have := HL0.out; omega)
    have hnb : ¬ Foot tb sv fv bb := HNF.out bb (by have := HL0.out; have := HGE1.out; omega)
    have e3 := ha3.block vb vl hnv
    have v0 := (cell_of_same e3 0).trans v0
    have v1 := (cell_of_same e3 1).trans v1
    have vl3 := Nat.lt_of_lt_of_le vl ha3.size
    have HREF3 := Lib.hid (HREF2.out.keep ha3.size (ha3.block bb HREF2.out.lt hnb))
    have HBX3 := Lib.hid (HBX2.out.apart ha3 HNF.out)
    have HAP3 := Lib.hid ((Apart.of_below (F := Foot tb sv fv) HB2.out).trans ha3 (fun _ _ h => h))
    have HG1 := Lib.hid (show Grew w0 sv sv1 from fun k hk => (hg1 k hk).imp (fun h => h) (fun h => Nat.le_trans HB2.out.size h))
    have HG2 := Lib.hid (show Grew w0 fv fv1 from fun k hk => (hg2 k hk).imp (fun h => h) (fun h => Nat.le_trans HB2.out.size h))
    have HNB := Lib.hid (show ¬ Foot tb sv1 fv1 bb from fun hf => hnb (foot_grew hg1 hg2 HREF2.out.lt hf))
    clear hm hh3 ha3 hg1 hg2 hnv hnb e3 l0 l1 l2 g0 g1 a0 a1 a2 a3 o0 o1 of0 of1
    obtain ⟨l2, g0, g1, a0, a1, a2, a3, _⟩ := HBX3.out
    obtain ⟨o0, o1, of0, of1⟩ := HBX3.out.outs
    have l1 : p + 1 < _ := Nat.lt_of_succ_lt l2
    have l0 : p < _ := Nat.lt_of_succ_lt l1
    go_wp2_with fail
    obtain ⟨k0, k1, k2, k3⟩ := HREF3.out.at_ i HIR.out
    rw [HX1.out] at k0
    rw [HT1.out] at k1
    rw [HFD1.out] at k2
    rw [HWH1.out] at k3
    have hbl := HREF3.out.lt
    have n0 : vb ≠ p + 1 + 1 := by have := HL2.out; have := HPV.out; omega
    have n1 : bb ≠ p + 1 + 1 := by have := HL2.out; have := HGE1.out; omega
    have Cv0 := Lib.hid (show ∀ w', Apart (fun k => k = p + 1 + 1) w3 w' → w'.cell? ⟨vb, 0, none⟩ = some (.slice (some ⟨bb, 0, none⟩) pn cc) from fun w' hA => (cell_of_same (hA.block vb vl3 n0) _).trans v0)
    have Cv1 := Lib.hid (show ∀ w', Apart (fun k => k = p + 1 + 1) w3 w' → w'.cell? ⟨vb, 1, none⟩ = some (.int .i64 pc) from fun w' hA => (cell_of_same (hA.block vb vl3 n0) _).trans v1)
    have Ck0 := Lib.hid (show ∀ w', Apart (fun k => k = p + 1 + 1) w3 w' → w'.cell? ⟨bb, i * 4, none⟩ = some (.int .i64 x1) from fun w' hA => (cell_of_same (hA.block bb hbl n1) _).trans k0)
    have Ck1 := Lib.hid (show ∀ w', Apart (fun k => k = p + 1 + 1) w3 w' → w'.cell? ⟨bb, i * 4 + 1, none⟩ = some (.bool t1) from fun w' hA => (cell_of_same (hA.block bb hbl n1) _).trans k1)
    have Ck2 := Lib.hid (show ∀ w', Apart (fun k => k = p + 1 + 1) w3 w' → w'.cell? ⟨bb, i * 4 + 2, none⟩ = some (.int .i64 fd1) from fun w' hA => (cell_of_same (hA.block bb hbl n1) _).trans k2)
    have Ck3 := Lib.hid (show ∀ w', Apart (fun k => k = p + 1 + 1) w3 w' → w'.cell? ⟨bb, i * 4 + 3, none⟩ = some (.int .i64 wh1) from fun w' hA => (cell_of_same (hA.block bb hbl n1) _).trans k3)
    have HDR := Lib.hid (show Apart (fun k => k = p + 1 + 1) w3 w3.drew from (Apart.refl _ _).drewN 1)
    refine wp_region_N (S1 := fun W => Apart (fun k => k = p + 1 + 1) w3 W) (S2 := fun _ => True) (N := fun _ => false) (by kernel_rfl) ?_
    change wpAnyN _ _ _ _ _ _ _ 21 (Array.replicate 21 false) _ _
    refine wpAnyN_take false (i := 0) (v := .agg #[.slice (some ⟨bb, 0, none⟩) pn cc, .int .i64 pc]) rfl (by kernel_rfl) (by kernel_rfl) (by kernel_rfl) (fun _ _ _ h => h) (.inl ⟨by kernel_rfl, fun W hS => ?_⟩) ⟨HDR.out, fun h => by cases h⟩ ?_
    · simp [execOp, Act.eval, go_sem, Cv0.out _ hS.1, Cv1.out _ hS.1]
    refine wpAnyN_take false (i := 1) (v := .int .i64 q) rfl (by kernel_rfl) (by kernel_rfl) (by kernel_rfl) (fun _ _ _ h => h) (.inl ⟨by kernel_rfl, fun W hS => ?_⟩) ⟨HDR.out, fun h => by cases h⟩ ?_
    · simp [execOp, Act.eval, Act.put, go_sem]
    refine wpAnyN_take false (i := 2) (v := .int .i64 q) rfl (by kernel_rfl) (by kernel_rfl) (by kernel_rfl) (fun _ _ _ h => h) (.inl ⟨by kernel_rfl, fun W hS => ?_⟩) ⟨HDR.out, fun h => by cases h⟩ ?_
    · simp [execOp, Act.eval, Act.put, go_sem]
    refine wpAnyN_take false (i := 3) (v := .bool true) rfl (by kernel_rfl) (by kernel_rfl) (by kernel_rfl) (fun _ _ _ h => h) (.inl ⟨by kernel_rfl, fun W hS => ?_⟩) ⟨HDR.out, fun h => by cases h⟩ ?_
    · simp [execOp, Act.eval, Act.put, go_sem]
    refine wpAnyN_take false (i := 4) (v := .bool true) rfl (by kernel_rfl) (by kernel_rfl) (by kernel_rfl) (fun _ _ _ h => h) (.inl ⟨by kernel_rfl, fun W hS => ?_⟩) ⟨HDR.out, fun h => by cases h⟩ ?_
    · simp [execOp, Act.eval, Act.put, go_sem]
    refine wpAnyN_take false (i := 5) (v := .int .i64 gq) rfl (by kernel_rfl) (by kernel_rfl) (by kernel_rfl) (fun _ _ _ h => h) (.inl ⟨by kernel_rfl, fun W hS => ?_⟩) ⟨HDR.out, fun h => by cases h⟩ ?_
    · simp [execOp, Act.eval, Act.put, go_sem]
    refine wpAnyN_take false (i := 6) (v := .pointer (some ⟨vb, 0, none⟩)) rfl (by kernel_rfl) (by kernel_rfl) (by kernel_rfl) (fun _ _ _ h => h) (.inl ⟨by kernel_rfl, fun W hS => ?_⟩) ⟨HDR.out, fun h => by cases h⟩ ?_
    · simp [execOp, Act.eval, Act.put, go_sem]
    refine wpAnyN_take false (i := 7) (v := .slice (some ⟨bb, 0, none⟩) pn cc) rfl (by kernel_rfl) (by kernel_rfl) (by kernel_rfl) (fun _ _ _ h => h) (.inl ⟨by kernel_rfl, fun W hS => ?_⟩) ⟨HDR.out, fun h => by cases h⟩ ?_
    · simp [execOp, Act.eval, Act.put, go_sem, Cv0.out _ hS.1]
    refine wpAnyN_take false (i := 8) (v := .int .i64 q) rfl (by kernel_rfl) (by kernel_rfl) (by kernel_rfl) (fun _ _ _ h => h) (.inl ⟨by kernel_rfl, fun W hS => ?_⟩) ⟨HDR.out, fun h => by cases h⟩ ?_
    · simp [execOp, Act.eval, Act.put, go_sem]
    refine wpAnyN_take false (i := 9) (v := .int .i64 i) rfl (by kernel_rfl) (by kernel_rfl) (by kernel_rfl) (fun _ _ _ h => h) (.inl ⟨by kernel_rfl, fun W hS => ?_⟩) ⟨HDR.out, fun h => by cases h⟩ ?_
    · simp [execOp, Act.eval, Act.put, go_sem, y1, y4]
    refine wpAnyN_take false (i := 10) (v := .pointer (some ⟨bb, i * 4, none⟩)) rfl (by kernel_rfl) (by kernel_rfl) (by kernel_rfl) (fun _ _ _ h => h) (.inl ⟨by kernel_rfl, fun W hS => ?_⟩) ⟨HDR.out, fun h => by cases h⟩ ?_
    · simp [execOp, Act.eval, Act.put, go_sem, y2]
    refine wpAnyN_take false (i := 11) (v := .agg #[.int .i64 x1, .bool t1, .int .i64 fd1, .int .i64 wh1]) rfl (by kernel_rfl) (by kernel_rfl) (by kernel_rfl) (fun _ _ _ h => h) (.inl ⟨by kernel_rfl, fun W hS => ?_⟩) ⟨HDR.out, fun h => by cases h⟩ ?_
    · simp [execOp, Act.eval, Act.put, go_sem, Ck0.out _ hS.1, Ck1.out _ hS.1, Ck2.out _ hS.1, Ck3.out _ hS.1]
    refine wpAnyN_step (i := 12) (by kernel_rfl) rfl (by kernel_rfl) ?_
    intro K' hK
    try simp only [Act.put]
    go_simp
    refine (HGEN.out _).mono ?_
    rintro e w5 ⟨rfl, hb⟩
    have HS5 := Lib.hid (HDR.out.trans (Apart.of_below (F := fun k => k = p + 1 + 1) hb) (fun _ _ h => h))
    have HBX5 := Lib.hid ((HBX3.out.below (show Below w3.heap.size w3 w3.drew from below_drewN (Below.refl _ _) 1)).below hb)
    have HB35 := Lib.hid ((show Below w3.heap.size w3 w3.drew from below_drewN (Below.refl _ _) 1).trans hb)
    clear hb
    refine hK.out _ _ HS5.out (fun h => absurd h (by decide)) ?_
    refine wpAnyN_take false (i := 13) (v := .bool true) rfl (by kernel_rfl) (by kernel_rfl) (by kernel_rfl) (fun _ _ _ h => h) (.inl ⟨by kernel_rfl, fun W hS => ?_⟩) ⟨HS5.out, fun h => by cases h⟩ ?_
    · simp [execOp, Act.eval, go_sem]
    refine wpAnyN_take false (i := 14) (v := .bool true) rfl (by kernel_rfl) (by kernel_rfl) (by kernel_rfl) (fun _ _ _ h => h) (.inl ⟨by kernel_rfl, fun W hS => ?_⟩) ⟨HS5.out, fun h => by cases h⟩ ?_
    · simp [execOp, Act.eval, Act.put, go_sem]
    refine wpAnyN_take false (i := 15) (v := .bool true) rfl (by kernel_rfl) (by kernel_rfl) (by kernel_rfl) (fun _ _ _ h => h) (.inl ⟨by kernel_rfl, fun W hS => ?_⟩) ⟨HS5.out, fun h => by cases h⟩ ?_
    · simp [execOp, Act.eval, Act.put, go_sem]
    refine wpAnyN_take false (i := 16) (v := .int .i64 0) rfl (by kernel_rfl) (by kernel_rfl) (by kernel_rfl) (fun _ _ _ h => h) (.inl ⟨by kernel_rfl, fun W hS => ?_⟩) ⟨HS5.out, fun h => by cases h⟩ ?_
    · simp [execOp, Act.eval, Act.put, go_sem]
    refine wpAnyN_take false (i := 17) (v := .bool true) rfl (by kernel_rfl) (by kernel_rfl) (by kernel_rfl) (fun _ _ _ h => h) (.inl ⟨by kernel_rfl, fun W hS => ?_⟩) ⟨HS5.out, fun h => by cases h⟩ ?_
    · simp [execOp, Act.eval, Act.put, go_sem]
    refine wpAnyN_take false (i := 18) (v := .bool true) rfl (by kernel_rfl) (by kernel_rfl) (by kernel_rfl) (fun _ _ _ h => h) (.inl ⟨by kernel_rfl, fun W hS => ?_⟩) ⟨HS5.out, fun h => by cases h⟩ ?_
    · simp [execOp, Act.eval, Act.put, go_sem]
    clear l0 l1 l2 g0 g1 a0 a1 a2 a3 o0 o1 of0 of1
    obtain ⟨l2, g0, g1, a0, a1, a2, a3, _⟩ := HBX5.out
    obtain ⟨o0, o1, of0, of1⟩ := HBX5.out.outs
    have l1 : p + 1 < _ := Nat.lt_of_succ_lt l2
    have l0 : p < _ := Nat.lt_of_succ_lt l1
    refine wpAnyN_step (i := 19) (by kernel_rfl) rfl (by kernel_rfl) ?_
    intro K' hK
    try simp only [Act.put]
    go_simp
    have HS6 := Lib.hid ((HS5.out.set (p := ⟨p + 1 + 1, 0, none⟩) (.inl rfl) (.slice (some ⟨bb, 0, none⟩) pn cc)).set (p := ⟨p + 1 + 1, 1, none⟩) (.inl rfl) (.int .i64 pc))
    refine hK.out _ _ HS6.out (fun h => absurd h (by decide)) ?_
    refine wpAnyN_take false (i := 20) (v := .bool true) rfl (by kernel_rfl) (by kernel_rfl) (by kernel_rfl) (fun _ _ _ h => h) (.inl ⟨by kernel_rfl, fun W hS => ?_⟩) ⟨HS6.out, fun h => by cases h⟩ ?_
    · simp [execOp, Act.eval, go_sem]
    refine wpAnyN_done (by kernel_rfl) ?_
    try simp only [Act.put]
    try go_simp
    have HH5 := Lib.hid (HH3.out.below HB35.out)
    have HREF := Lib.hid (HREF3.out.below HB35.out)
    have HGE := Lib.hid (HGE1.out)
    have HA5 := Lib.hid (HAP3.out.trans (Apart.of_below (F := Foot tb sv fv) HB35.out) (fun _ _ h => h))
    go_wp2_with fail
    have hres := two_set HBX5.out.ho (.slice (some ⟨bb, 0, none⟩) pn cc) (.int .i64 pc)
    refine bodyPost_ret (v := .tuple #[.agg #[.slice (some ⟨bb, 0, none⟩) pn cc, .int .i64 pc], .bool true]) (results_row_tmp rfl _ _ (p + 1 + 1) _ _ _ _ rfl hres Try.underlying30 rfl (Try.sizeTable _ _) _ rfl) rfl ?_
    have hle : W.heap.size ≤ p + 1 + 1 := by rw [HP.out]; omega
    have hnb : bb ≠ p + 1 + 1 := by have h1 := HGE.out; have h2 := HL2.out; omega
    have hbl : Below w5.heap.size w5 w5 := Below.refl _ _
    have hnf : ∀ k, p ≤ k → ¬ Foot tb sv1 fv1 k ∨ w0.heap.size ≤ k := fun k hk => by
      rcases Nat.lt_or_ge k w0.heap.size with h | h
      · exact .inl fun hf => HNF.out k hk (foot_grew HG1.out HG2.out h hf)
      · exact .inr h
    have hn2 : ¬ Foot tb sv1 fv1 (p + 1 + 1) := by
      rcases hnf (p + 1 + 1) (by omega) with h | h
      · exact h
      · have := HL2.out; omega
    have hap := ((Apart.of_below (F := Foot tb sv fv) HB0.out).trans HA5.out (fun _ _ h => h)).set (p := ⟨p + 1 + 1, 0, none⟩) (.inr hle) (.slice (some ⟨bb, 0, none⟩) pn cc)
    have hap := hap.set (p := ⟨p + 1 + 1, 1, none⟩) (.inr hle) (.int .i64 pc)
    have hfar : ∀ k, k ≠ p + 1 + 1 → ((w5.setCell ⟨p + 1 + 1, 0, none⟩ (.slice (some ⟨bb, 0, none⟩) pn cc)).setCell ⟨p + 1 + 1, 1, none⟩ (.int .i64 pc)).heap[k]? = w5.heap[k]? := fun k hk => (Below.heap_setCell _ _ _ _ hk).trans (Below.heap_setCell _ _ _ _ hk)
    have hsz : w5.heap.size ≤ ((w5.setCell ⟨p + 1 + 1, 0, none⟩ (.slice (some ⟨bb, 0, none⟩) pn cc)).setCell ⟨p + 1 + 1, 1, none⟩ (.int .i64 pc)).heap.size := by simp [World.setCell]
    have HX := HH5.out
    refine ⟨sv1, fv1, s1, bb, cc, r1, ?_, ⟨⟨HX.lies.keep (fun k hf => hfar k (fun e => hn2 (e ▸ hf))), HX.ok, HX.h1, HX.h2, HX.h3, ?_, Nat.le_trans HX.hB hsz⟩, HAG.out, ⟨HREF.out.keep hsz (hfar bb hnb), ?_, HCAP.out⟩, ?_⟩, ?_, ?_, hap, fun k hk => (HG1.out k hk).imp (fun h => h) (fun h => Nat.le_trans HB0.out.size h), fun k hk => (HG2.out k hk).imp (fun h => h) (fun h => Nat.le_trans HB0.out.size h)⟩
    · unfold refV
      rw [HPN.out, HPC.out]
    · have hB2 : B ≤ p + 1 + 1 := Nat.le_trans ST.out.held.hB hle
      exact (HX.bel.setCell (p := ⟨p + 1 + 1, 0, none⟩) hB2 _).setCell (p := ⟨p + 1 + 1, 1, none⟩) hB2 _
    · exact HNB.out
    · exact HCLK.out
    · exact HSN.out
    · exact Nat.le_of_eq HCLK2.out

end Go.Proofs.Ytgpbgakijjdkoaa
