/-
  step of the law: both tables go on together, whatever the call.
  Conditions: both tables lie in memory, and agree.
-/
import Derived.Test.YtgpbgakijjdkoaaBoth
import Derived.Test.YtgpbgakijjdkoaaOrders
set_option linter.unusedVariables false
namespace Go.Proofs.Ytgpbgakijjdkoaa
open Go.RowKit TI

/-- What step has laid for itself. -/
structure Boxes (p b n c clk : Nat) (kind id g x : Int) (w : World) : Prop where
  lt : p + 1 + 1 < w.heap.size
  g0 : w.cell? ⟨p, 0, none⟩ = some (.slice (some ⟨b, 0, none⟩) n c)
  g1 : w.cell? ⟨p, 1, none⟩ = some (.int .i64 clk)
  a0 : w.cell? ⟨p + 1, 0, none⟩ = some (.int .i64 kind)
  a1 : w.cell? ⟨p + 1, 1, none⟩ = some (.int .i64 id)
  a2 : w.cell? ⟨p + 1, 2, none⟩ = some (.int .i64 g)
  a3 : w.cell? ⟨p + 1, 3, none⟩ = some (.int .i64 x)
  ho : w.heap[p + 1 + 1]? = some (.cells #[.slice none 0 0, .int .i64 0] 30 (0, 0))
theorem Boxes.keep {p b n c clk : Nat} {kind id g x : Int} {w w' : World} (h : Boxes p b n c clk kind id g x w) (hs : w.heap.size ≤ w'.heap.size) (hb : ∀ k, p ≤ k → k < w.heap.size → w'.heap[k]? = w.heap[k]?) : Boxes p b n c clk kind id g x w' := by
  have lt := h.lt
  have e0 := hb p (Nat.le_refl _) (by omega)
  have e1 := hb (p + 1) (by omega) (by omega)
  have e2 := hb (p + 1 + 1) (by omega) lt
  exact ⟨Nat.lt_of_lt_of_le lt hs, (cell_of_same e0 _).trans h.g0, (cell_of_same e0 _).trans h.g1, (cell_of_same e1 _).trans h.a0, (cell_of_same e1 _).trans h.a1, (cell_of_same e1 _).trans h.a2, (cell_of_same e1 _).trans h.a3, e2.trans h.ho⟩
theorem Boxes.below {p b n c clk : Nat} {kind id g x : Int} {w w' : World} (h : Boxes p b n c clk kind id g x w) (hb : Below w.heap.size w w') : Boxes p b n c clk kind id g x w' := h.keep hb.size fun k _ hl => hb.block k hl
theorem Boxes.apart {p b n c clk : Nat} {kind id g x : Int} {F : Nat → Prop} {w w' : World} (h : Boxes p b n c clk kind id g x w) (ha : Apart F w w') (hF : ∀ k, p ≤ k → ¬ F k) : Boxes p b n c clk kind id g x w' := h.keep ha.size fun k hk hl => ha.block k hl (hF k hk)
theorem Boxes.outs {p b n c clk : Nat} {kind id g x : Int} {w : World} (h : Boxes p b n c clk kind id g x w) : w.cell? ⟨p + 1 + 1, 0, none⟩ = some (.slice none 0 0) ∧ w.cell? ⟨p + 1 + 1, 1, none⟩ = some (.int .i64 0) ∧ w.frozen? ⟨p + 1 + 1, 0, none⟩ = false ∧ w.frozen? ⟨p + 1 + 1, 1, none⟩ = false := by
  have h0 := cell_of h.ho 0
  have h1 := cell_of h.ho 1
  exact ⟨h0, h1, frozen_of h.ho 0, frozen_of h.ho 1⟩

set_option maxRecDepth 100000 in
set_option maxHeartbeats 16000000 in
theorem step_other (B : Nat) (W0 W : World) (tb : Nat) (sv fv : Value) (s : Ts Int) (b c : Nat) (r : Rs) (kind id g x : Int) (st : Both B W0 W tb sv fv s b c r) (hk5 : r.clk ≤ 1000) (k0 : kind ≠ 0) (k1 : kind ≠ 1) (k2 : kind ≠ 2) (k3 : kind ≠ 3) (k4 : kind ≠ 4) :
    Calls Try.prog 9 #[.pointer (some ⟨tb, 0, none⟩), refV b c r, .agg #[.int .i64 kind, .int .i64 id, .int .i64 g, .int .i64 x]] W (StepPost B W0 W tb sv fv s.n r.clk) := by
  unfold refV
  obtain ⟨w0, hw0⟩ : ∃ w0, ((W.alloc (.cells #[.slice (some ⟨b, 0, none⟩) r.n c, .int .i64 r.clk] 30)).alloc (.cells #[.int .i64 kind, .int .i64 id, .int .i64 g, .int .i64 x] 35)).alloc (.cells #[.slice none 0 0, .int .i64 0] 30) = w0 := ⟨_, rfl⟩
  have HB0 := Lib.hid (show Below W.heap.size W w0 by rw [← hw0]; exact (((Below.refl _ _).alloc (Nat.le_refl _) _).alloc (by rw [World.size_alloc]; omega) _).alloc (by rw [World.size_alloc, World.size_alloc]; omega) _)
  have hs0 : w0.heap.size = W.heap.size + 3 := by rw [← hw0, World.size_alloc, World.size_alloc, World.size_alloc]
  have hnew := fun j => by have := three_new W #[.slice (some ⟨b, 0, none⟩) r.n c, .int .i64 r.clk] #[.int .i64 kind, .int .i64 id, .int .i64 g, .int .i64 x] #[.slice none 0 0, .int .i64 0] 30 35 30 j; rw [hw0] at this; exact this
  have ho := heap_alloc_new ((W.alloc (.cells #[.slice (some ⟨b, 0, none⟩) r.n c, .int .i64 r.clk] 30)).alloc (.cells #[.int .i64 kind, .int .i64 id, .int .i64 g, .int .i64 x] 35)) (.cells #[.slice none 0 0, .int .i64 0] 30)
  rw [hw0, World.size_alloc, World.size_alloc] at ho
  have ST := Lib.hid st
  have ST0 := Lib.hid (st.below HB0.out)
  have HF := Lib.hid st.few
  have g0 := (hnew 0).1
  have g1 := (hnew 1).1
  have a0 := (hnew 0).2.1
  have a1 := (hnew 1).2.1
  have a2 := (hnew 2).2.1
  have a3 := (hnew 3).2.1
  simp only [List.getElem?_toArray, List.getElem?_cons_zero, List.getElem?_cons_succ] at g0 g1 a0 a1 a2 a3
  obtain ⟨n, hnn⟩ : ∃ n, r.n = n := ⟨_, rfl⟩
  have HNN := Lib.hid hnn
  obtain ⟨clk, hck⟩ : ∃ n, r.clk = n := ⟨_, rfl⟩
  have HCK := Lib.hid hck
  obtain ⟨p, hp⟩ : ∃ p, W.heap.size = p := ⟨_, rfl⟩
  have HP := Lib.hid hp
  have HNF := Lib.hid (show ∀ k, p ≤ k → ¬ Foot tb sv fv k from fun k hk hf => by have := st.held.lies.foot hf; omega)
  rw [hp] at g0 g1 a0 a1 a2 a3 ho hs0
  have HO := Lib.hid ho
  have HW0 := Lib.hid hs0
  have l0 : p < w0.heap.size := by omega
  have l1 : p + 1 < w0.heap.size := by omega
  have l2 : p + 1 + 1 < w0.heap.size := by omega
  have HL0 := Lib.hid l0
  have HL1 := Lib.hid l1
  have HL2 := Lib.hid l2
  have HK5 := Lib.hid hk5
  rw [hnn] at g0 hw0
  rw [hck] at g1 hw0 hk5
  have HBX := Lib.hid (show Boxes p b n c clk kind id g x w0 from ⟨l2, g0, g1, a0, a1, a2, a3, HO.out⟩)
  have z0 : (kind == 0) = false := by simp; exact k0
  have z1 : (kind == 1) = false := by simp; exact k1
  have z2 : (kind == 2) = false := by simp; exact k2
  have z3 : (kind == 3) = false := by simp; exact k3
  have z4 : (kind == 4) = false := by simp; exact k4
  rw [hnn, hck]
  clear hnew hnn hck ho hs0 st
  go_enter Try.func9, Try.ntmps9
  go_upto_region 1 with fail
  clear hw0 hp
  have o0 := cell_of HO.out 0
  have o1 := cell_of HO.out 1
  simp only [List.getElem?_toArray, List.getElem?_cons_zero, List.getElem?_cons_succ] at o0 o1
  have of0 := frozen_of HO.out 0
  have of1 := frozen_of HO.out 1
  go_wp2_with fail
  have hres := two_set HO.out (.slice (some ⟨b, 0, none⟩) n c) (.int .i64 clk)
  refine bodyPost_ret (v := .tuple #[.agg #[.slice (some ⟨b, 0, none⟩) n c, .int .i64 clk], .bool true]) (results_row_tmp rfl _ _ (p + 1 + 1) _ _ _ _ rfl hres Try.underlying30 rfl (Try.sizeTable _ _) _ rfl) rfl ?_
  have hle : W.heap.size ≤ p + 1 + 1 := by rw [HP.out]; omega
  have hbel : Below W.heap.size W ((w0.setCell ⟨p + 1 + 1, 0, none⟩ (.slice (some ⟨b, 0, none⟩) n c)).setCell ⟨p + 1 + 1, 1, none⟩ (.int .i64 clk)) := (HB0.out.setCell (p := ⟨p + 1 + 1, 0, none⟩) hle _).setCell (p := ⟨p + 1 + 1, 1, none⟩) hle _
  refine ⟨sv, fv, s, b, c, r, ?_, ST.out.below hbel, rfl, by rw [HCK.out]; omega, Apart.of_below hbel, Grew.refl _ _, Grew.refl _ _⟩
  unfold refV
  rw [HNN.out, HCK.out]

set_option maxRecDepth 100000 in
set_option maxHeartbeats 16000000 in
theorem step_set_no (B : Nat) (W0 W : World) (tb : Nat) (sv fv : Value) (s : Ts Int) (b c : Nat) (r : Rs) (kind id g x : Int) (st : Both B W0 W tb sv fv s b c r) (hk5 : r.clk ≤ 1000) (hk : kind = 4) (hu : inU s id = false) :
    Calls Try.prog 9 #[.pointer (some ⟨tb, 0, none⟩), refV b c r, .agg #[.int .i64 kind, .int .i64 id, .int .i64 g, .int .i64 x]] W (StepPost B W0 W tb sv fv s.n r.clk) := by
  unfold refV
  obtain ⟨w0, hw0⟩ : ∃ w0, ((W.alloc (.cells #[.slice (some ⟨b, 0, none⟩) r.n c, .int .i64 r.clk] 30)).alloc (.cells #[.int .i64 kind, .int .i64 id, .int .i64 g, .int .i64 x] 35)).alloc (.cells #[.slice none 0 0, .int .i64 0] 30) = w0 := ⟨_, rfl⟩
  have HB0 := Lib.hid (show Below W.heap.size W w0 by rw [← hw0]; exact (((Below.refl _ _).alloc (Nat.le_refl _) _).alloc (by rw [World.size_alloc]; omega) _).alloc (by rw [World.size_alloc, World.size_alloc]; omega) _)
  have hs0 : w0.heap.size = W.heap.size + 3 := by rw [← hw0, World.size_alloc, World.size_alloc, World.size_alloc]
  have hnew := fun j => by have := three_new W #[.slice (some ⟨b, 0, none⟩) r.n c, .int .i64 r.clk] #[.int .i64 kind, .int .i64 id, .int .i64 g, .int .i64 x] #[.slice none 0 0, .int .i64 0] 30 35 30 j; rw [hw0] at this; exact this
  have ho := heap_alloc_new ((W.alloc (.cells #[.slice (some ⟨b, 0, none⟩) r.n c, .int .i64 r.clk] 30)).alloc (.cells #[.int .i64 kind, .int .i64 id, .int .i64 g, .int .i64 x] 35)) (.cells #[.slice none 0 0, .int .i64 0] 30)
  rw [hw0, World.size_alloc, World.size_alloc] at ho
  have ST := Lib.hid st
  have ST0 := Lib.hid (st.below HB0.out)
  have HF := Lib.hid st.few
  have g0 := (hnew 0).1
  have g1 := (hnew 1).1
  have a0 := (hnew 0).2.1
  have a1 := (hnew 1).2.1
  have a2 := (hnew 2).2.1
  have a3 := (hnew 3).2.1
  simp only [List.getElem?_toArray, List.getElem?_cons_zero, List.getElem?_cons_succ] at g0 g1 a0 a1 a2 a3
  obtain ⟨n, hnn⟩ : ∃ n, r.n = n := ⟨_, rfl⟩
  have HNN := Lib.hid hnn
  obtain ⟨clk, hck⟩ : ∃ n, r.clk = n := ⟨_, rfl⟩
  have HCK := Lib.hid hck
  obtain ⟨p, hp⟩ : ∃ p, W.heap.size = p := ⟨_, rfl⟩
  have HP := Lib.hid hp
  have HNF := Lib.hid (show ∀ k, p ≤ k → ¬ Foot tb sv fv k from fun k hk hf => by have := st.held.lies.foot hf; omega)
  rw [hp] at g0 g1 a0 a1 a2 a3 ho hs0
  have HO := Lib.hid ho
  have HW0 := Lib.hid hs0
  have l0 : p < w0.heap.size := by omega
  have l1 : p + 1 < w0.heap.size := by omega
  have l2 : p + 1 + 1 < w0.heap.size := by omega
  have HL0 := Lib.hid l0
  have HL1 := Lib.hid l1
  have HL2 := Lib.hid l2
  have HK5 := Lib.hid hk5
  rw [hnn] at g0 hw0
  rw [hck] at g1 hw0 hk5
  have HBX := Lib.hid (show Boxes p b n c clk kind id g x w0 from ⟨l2, g0, g1, a0, a1, a2, a3, HO.out⟩)
  have HSET := Lib.hid (set_none w0 tb sv fv s id x ST0.out.held.lies (by have := ST.out.held.ok.mn; have := ST.out.held.ok.n1; omega) ST.out.held.ok.n0 hu)
  have hh := hasR_any w0 b c r id ST0.out.side.at_ HF.out.n1
  rw [hasR_eq ST.out.held.ok ST.out.agr, hu] at hh
  unfold refV at hh
  rw [hnn, hck] at hh
  have HHAS := Lib.hid hh
  subst hk
  clear hh hu
  rw [hnn, hck]
  clear hnew hnn hck ho hs0 st
  go_enter Try.func9, Try.ntmps9
  go_upto_region 1 with fail
  clear hw0 hp
  go_wp2_with fail
  refine HSET.out.mono ?_
  rintro e w ⟨rfl, rfl⟩
  go_wp2_with fail
  refine HHAS.out.mono ?_
  rintro e w1 ⟨rfl, hb1⟩
  have HB1 := Lib.hid hb1
  have HBX1 := Lib.hid (HBX.out.below hb1)
  clear hb1 l0 l1 l2 g0 g1 a0 a1 a2 a3
  obtain ⟨l2, g0, g1, a0, a1, a2, a3, _⟩ := HBX1.out
  obtain ⟨o0, o1, of0, of1⟩ := HBX1.out.outs
  have l1 : p + 1 < _ := Nat.lt_of_succ_lt l2
  have l0 : p < _ := Nat.lt_of_succ_lt l1
  go_wp2_with fail
  have hres := two_set HBX1.out.ho (.slice (some ⟨b, 0, none⟩) n c) (.int .i64 clk)
  refine bodyPost_ret (v := .tuple #[.agg #[.slice (some ⟨b, 0, none⟩) n c, .int .i64 clk], .bool true]) (results_row_tmp rfl _ _ (p + 1 + 1) _ _ _ _ rfl hres Try.underlying30 rfl (Try.sizeTable _ _) _ rfl) rfl ?_
  have hle : W.heap.size ≤ p + 1 + 1 := by rw [HP.out]; omega
  have hbel : Below W.heap.size W ((w1.setCell ⟨p + 1 + 1, 0, none⟩ (.slice (some ⟨b, 0, none⟩) n c)).setCell ⟨p + 1 + 1, 1, none⟩ (.int .i64 clk)) := ((HB0.out.trans (HB1.out.mono HB0.out.size)).setCell (p := ⟨p + 1 + 1, 0, none⟩) hle _).setCell (p := ⟨p + 1 + 1, 1, none⟩) hle _
  refine ⟨sv, fv, s, b, c, r, ?_, ST.out.below hbel, rfl, by rw [HCK.out]; omega, Apart.of_below hbel, Grew.refl _ _, Grew.refl _ _⟩
  unfold refV
  rw [HNN.out, HCK.out]

set_option maxRecDepth 100000 in
set_option maxHeartbeats 16000000 in
theorem step_set_yes (B : Nat) (W0 W : World) (tb : Nat) (sv fv : Value) (s : Ts Int) (b c : Nat) (r : Rs) (kind id g x : Int) (st : Both B W0 W tb sv fv s b c r) (hk5 : r.clk ≤ 1000) (hk : kind = 4) (hu : inU s id = true) :
    Calls Try.prog 9 #[.pointer (some ⟨tb, 0, none⟩), refV b c r, .agg #[.int .i64 kind, .int .i64 id, .int .i64 g, .int .i64 x]] W (StepPost B W0 W tb sv fv s.n r.clk) := by
  obtain ⟨i, hid, hi, hui⟩ := inU_some hu
  have hmn := st.held.ok.mn
  have hir : i < r.n := by rw [st.agr.n]; omega
  have HIR := Lib.hid hir
  unfold refV
  obtain ⟨w0, hw0⟩ : ∃ w0, ((W.alloc (.cells #[.slice (some ⟨b, 0, none⟩) r.n c, .int .i64 r.clk] 30)).alloc (.cells #[.int .i64 kind, .int .i64 id, .int .i64 g, .int .i64 x] 35)).alloc (.cells #[.slice none 0 0, .int .i64 0] 30) = w0 := ⟨_, rfl⟩
  have HB0 := Lib.hid (show Below W.heap.size W w0 by rw [← hw0]; exact (((Below.refl _ _).alloc (Nat.le_refl _) _).alloc (by rw [World.size_alloc]; omega) _).alloc (by rw [World.size_alloc, World.size_alloc]; omega) _)
  have hs0 : w0.heap.size = W.heap.size + 3 := by rw [← hw0, World.size_alloc, World.size_alloc, World.size_alloc]
  have hnew := fun j => by have := three_new W #[.slice (some ⟨b, 0, none⟩) r.n c, .int .i64 r.clk] #[.int .i64 kind, .int .i64 id, .int .i64 g, .int .i64 x] #[.slice none 0 0, .int .i64 0] 30 35 30 j; rw [hw0] at this; exact this
  have ho := heap_alloc_new ((W.alloc (.cells #[.slice (some ⟨b, 0, none⟩) r.n c, .int .i64 r.clk] 30)).alloc (.cells #[.int .i64 kind, .int .i64 id, .int .i64 g, .int .i64 x] 35)) (.cells #[.slice none 0 0, .int .i64 0] 30)
  rw [hw0, World.size_alloc, World.size_alloc] at ho
  have ST := Lib.hid st
  have ST0 := Lib.hid (st.below HB0.out)
  have HF := Lib.hid st.few
  have g0 := (hnew 0).1
  have g1 := (hnew 1).1
  have a0 := (hnew 0).2.1
  have a1 := (hnew 1).2.1
  have a2 := (hnew 2).2.1
  have a3 := (hnew 3).2.1
  simp only [List.getElem?_toArray, List.getElem?_cons_zero, List.getElem?_cons_succ] at g0 g1 a0 a1 a2 a3
  obtain ⟨n, hnn⟩ : ∃ n, r.n = n := ⟨_, rfl⟩
  have HNN := Lib.hid hnn
  obtain ⟨clk, hck⟩ : ∃ n, r.clk = n := ⟨_, rfl⟩
  have HCK := Lib.hid hck
  obtain ⟨p, hp⟩ : ∃ p, W.heap.size = p := ⟨_, rfl⟩
  have HP := Lib.hid hp
  have HNF := Lib.hid (show ∀ k, p ≤ k → ¬ Foot tb sv fv k from fun k hk hf => by have := st.held.lies.foot hf; omega)
  rw [hp] at g0 g1 a0 a1 a2 a3 ho hs0
  have HO := Lib.hid ho
  have HW0 := Lib.hid hs0
  have l0 : p < w0.heap.size := by omega
  have l1 : p + 1 < w0.heap.size := by omega
  have l2 : p + 1 + 1 < w0.heap.size := by omega
  have HL0 := Lib.hid l0
  have HL1 := Lib.hid l1
  have HL2 := Lib.hid l2
  have HK5 := Lib.hid hk5
  rw [hnn] at g0 hw0
  rw [hck] at g1 hw0 hk5
  have HBX := Lib.hid (show Boxes p b n c clk kind id g x w0 from ⟨l2, g0, g1, a0, a1, a2, a3, HO.out⟩)
  have hso := set_ok w0 tb sv fv s i x ST0.out.held.lies (by have := ST.out.held.ok.n1; omega) ST.out.held.ok.n0 hi hui
  rw [← hid] at hso
  have HSET := Lib.hid hso
  have HHAS := Lib.hid (show ∀ w, RefAt w b r → Calls Try.prog 16 #[.agg #[.slice (some ⟨b, 0, none⟩) n c, .int .i64 clk], .int .i64 id] w (RetB (.bool true) w) from fun w hR => by
    have hh := hasR_any w b c r ((i + 1 : Nat) : Int) hR HF.out.n1
    rw [hasR_eq ST.out.held.ok ST.out.agr, ← hid, hu] at hh
    unfold refV at hh
    rw [hnn, hck] at hh
    exact hh)
  have HREFS := Lib.hid (show ∀ w, RefAt w b r → Calls Try.prog 28 #[.agg #[.slice (some ⟨b, 0, none⟩) n c, .int .i64 clk], .int .i64 id, .int .i64 x] w (RetR (setR r i x) _root_.id w) from fun w hR => by
    have hh := refSet_any w b c r i x hR HF.out HIR.out
    unfold refV at hh
    rw [hnn, hck, ← hid] at hh
    exact hh)
  have HOK := Lib.hid (ST.out.held.ok.set i x)
  have HAG := Lib.hid (ST.out.agr.put i x)
  subst hk
  clear hso hu hmn hi hui hir hid
  rw [hnn, hck]
  clear hnew hnn hck ho hs0 st
  go_enter Try.func9, Try.ntmps9
  go_upto_region 1 with fail
  clear hw0 hp
  go_wp2_with fail
  refine HSET.out.mono ?_
  rintro e w1 hm
  obtain ⟨sv1, fv1, rfl, hh1, ha1, hg1, hg2⟩ := ST0.out.held.mut HOK.out hm
  have HH1 := Lib.hid hh1
  have HA1 := Lib.hid ha1
  have HG1 := Lib.hid hg1
  have HG2 := Lib.hid hg2
  have SD1 := Lib.hid (ST0.out.side.mut ha1 hg1 hg2)
  have HBX1 := Lib.hid (HBX.out.apart ha1 HNF.out)
  clear hm hh1 ha1 hg1 hg2 l0 l1 l2 g0 g1 a0 a1 a2 a3
  obtain ⟨l2, g0, g1, a0, a1, a2, a3, _⟩ := HBX1.out
  obtain ⟨o0, o1, of0, of1⟩ := HBX1.out.outs
  have l1 : p + 1 < _ := Nat.lt_of_succ_lt l2
  have l0 : p < _ := Nat.lt_of_succ_lt l1
  go_wp2_with fail
  refine (HHAS.out w1 SD1.out.at_).mono ?_
  rintro e w2 ⟨rfl, hb2⟩
  have HH2 := Lib.hid (HH1.out.below hb2)
  have HA2 := Lib.hid (HA1.out.trans (Apart.of_below (F := Foot tb sv fv) hb2) (fun _ _ h => h))
  have SD2 := Lib.hid (SD1.out.below hb2)
  have HBX2 := Lib.hid (HBX1.out.below hb2)
  clear hb2 l0 l1 l2 g0 g1 a0 a1 a2 a3 o0 o1 of0 of1
  obtain ⟨l2, g0, g1, a0, a1, a2, a3, _⟩ := HBX2.out
  obtain ⟨o0, o1, of0, of1⟩ := HBX2.out.outs
  have l1 : p + 1 < _ := Nat.lt_of_succ_lt l2
  have l0 : p < _ := Nat.lt_of_succ_lt l1
  go_wp2_with fail
  refine (HREFS.out w2 SD2.out.at_).mono ?_
  rintro e w4 ⟨bb, cc, rfl, hcap, href, hge, hb4⟩
  have HREF := Lib.hid href
  have HCAP := Lib.hid hcap
  have HBX4 := Lib.hid (HBX2.out.below hb4)
  have HH4 := Lib.hid (HH2.out.below hb4)
  have HA4 := Lib.hid (HA2.out.trans (Apart.of_below (F := Foot tb sv fv) hb4) (fun _ _ h => h))
  have HNB := Lib.hid (show ¬ Foot tb sv1 fv1 bb from fun hf => by have := HH2.out.lies.foot hf; omega)
  have HGE := Lib.hid (show w0.heap.size ≤ bb from Nat.le_trans HA2.out.size hge)
  simp only [id_eq]
  unfold refV
  obtain ⟨pn, hpn⟩ : ∃ y, (setR r i x).n = y := ⟨_, rfl⟩
  obtain ⟨pc, hpc⟩ : ∃ y, (setR r i x).clk = y := ⟨_, rfl⟩
  rw [hpn, hpc]
  have HPN := Lib.hid hpn
  have HPC := Lib.hid hpc
  clear href hcap hge hb4 hpn hpc
  clear l0 l1 l2 g0 g1 a0 a1 a2 a3 o0 o1 of0 of1
  obtain ⟨l2, g0, g1, a0, a1, a2, a3, _⟩ := HBX4.out
  obtain ⟨o0, o1, of0, of1⟩ := HBX4.out.outs
  have l1 : p + 1 < _ := Nat.lt_of_succ_lt l2
  have l0 : p < _ := Nat.lt_of_succ_lt l1
  go_wp2_with fail
  have hres := two_set HBX4.out.ho (.slice (some ⟨bb, 0, none⟩) pn cc) (.int .i64 pc)
  refine bodyPost_ret (v := .tuple #[.agg #[.slice (some ⟨bb, 0, none⟩) pn cc, .int .i64 pc], .bool true]) (results_row_tmp rfl _ _ (p + 1 + 1) _ _ _ _ rfl hres Try.underlying30 rfl (Try.sizeTable _ _) _ rfl) rfl ?_
  have hle : W.heap.size ≤ p + 1 + 1 := by rw [HP.out]; omega
  have hnb : bb ≠ p + 1 + 1 := by have h1 := HGE.out; have h2 := HL2.out; omega
  have hbl : Below w4.heap.size w4 w4 := Below.refl _ _
  have hnf : ∀ k, p ≤ k → ¬ Foot tb sv1 fv1 k ∨ w0.heap.size ≤ k := fun k hk => by
    rcases Nat.lt_or_ge k w0.heap.size with h | h
    · exact .inl fun hf => HNF.out k hk (foot_grew HG1.out HG2.out h hf)
    · exact .inr h
  have hn2 : ¬ Foot tb sv1 fv1 (p + 1 + 1) := by
    rcases hnf (p + 1 + 1) (by omega) with h | h
    · exact h
    · have := HL2.out; omega
  have hap := ((Apart.of_below (F := Foot tb sv fv) HB0.out).trans HA4.out (fun _ _ h => h)).set (p := ⟨p + 1 + 1, 0, none⟩) (.inr hle) (.slice (some ⟨bb, 0, none⟩) pn cc)
  have hap := hap.set (p := ⟨p + 1 + 1, 1, none⟩) (.inr hle) (.int .i64 pc)
  have hfar : ∀ k, k ≠ p + 1 + 1 → ((w4.setCell ⟨p + 1 + 1, 0, none⟩ (.slice (some ⟨bb, 0, none⟩) pn cc)).setCell ⟨p + 1 + 1, 1, none⟩ (.int .i64 pc)).heap[k]? = w4.heap[k]? := fun k hk => (Below.heap_setCell _ _ _ _ hk).trans (Below.heap_setCell _ _ _ _ hk)
  have hsz : w4.heap.size ≤ ((w4.setCell ⟨p + 1 + 1, 0, none⟩ (.slice (some ⟨bb, 0, none⟩) pn cc)).setCell ⟨p + 1 + 1, 1, none⟩ (.int .i64 pc)).heap.size := by simp [World.setCell]
  have HX := HH4.out
  refine ⟨sv1, fv1, setT s i x, bb, cc, setR r i x, ?_, ⟨⟨HX.lies.keep (fun k hf => hfar k (fun e => hn2 (e ▸ hf))), HX.ok, HX.h1, HX.h2, HX.h3, ?_, Nat.le_trans HX.hB hsz⟩, HAG.out, ⟨HREF.out.keep hsz (hfar bb hnb), ?_, HCAP.out⟩, ?_⟩, ?_, ?_, hap, fun k hk => (HG1.out k hk).imp (fun h => h) (fun h => Nat.le_trans HB0.out.size h), fun k hk => (HG2.out k hk).imp (fun h => h) (fun h => Nat.le_trans HB0.out.size h)⟩
  · unfold refV
    rw [HPN.out, HPC.out]
  · have hB2 : B ≤ p + 1 + 1 := Nat.le_trans ST.out.held.hB hle
    exact (HX.bel.setCell (p := ⟨p + 1 + 1, 0, none⟩) hB2 _).setCell (p := ⟨p + 1 + 1, 1, none⟩) hB2 _
  · exact HNB.out
  · show r.clk + 1 ≤ 5000
    have := HK5.out
    omega
  · rfl
  · exact Nat.le_of_eq (show r.clk + 1 = clk + 1 by rw [HCK.out])

theorem stepB {wb w1 w2 : World} (h : Hid (Below wb.heap.size wb w1)) (hb : Below w1.heap.size w1 w2) : Below wb.heap.size wb w2 := h.out.trans (hb.mono h.out.size)

set_option maxRecDepth 100000 in
set_option maxHeartbeats 16000000 in
theorem step_drop_no1 (B : Nat) (W0 W : World) (tb : Nat) (sv fv : Value) (s : Ts Int) (b c : Nat) (r : Rs) (kind id g x : Int) (st : Both B W0 W tb sv fv s b c r) (hk5 : r.clk ≤ 1000) (hk : kind = 2 ∨ kind = 3) (hu : inU s id = false) :
    Calls Try.prog 9 #[.pointer (some ⟨tb, 0, none⟩), refV b c r, .agg #[.int .i64 kind, .int .i64 id, .int .i64 g, .int .i64 x]] W (StepPost B W0 W tb sv fv s.n r.clk) := by
  unfold refV
  obtain ⟨w0, hw0⟩ : ∃ w0, ((W.alloc (.cells #[.slice (some ⟨b, 0, none⟩) r.n c, .int .i64 r.clk] 30)).alloc (.cells #[.int .i64 kind, .int .i64 id, .int .i64 g, .int .i64 x] 35)).alloc (.cells #[.slice none 0 0, .int .i64 0] 30) = w0 := ⟨_, rfl⟩
  have HB0 := Lib.hid (show Below W.heap.size W w0 by rw [← hw0]; exact (((Below.refl _ _).alloc (Nat.le_refl _) _).alloc (by rw [World.size_alloc]; omega) _).alloc (by rw [World.size_alloc, World.size_alloc]; omega) _)
  have hs0 : w0.heap.size = W.heap.size + 3 := by rw [← hw0, World.size_alloc, World.size_alloc, World.size_alloc]
  have hnew := fun j => by have := three_new W #[.slice (some ⟨b, 0, none⟩) r.n c, .int .i64 r.clk] #[.int .i64 kind, .int .i64 id, .int .i64 g, .int .i64 x] #[.slice none 0 0, .int .i64 0] 30 35 30 j; rw [hw0] at this; exact this
  have ho := heap_alloc_new ((W.alloc (.cells #[.slice (some ⟨b, 0, none⟩) r.n c, .int .i64 r.clk] 30)).alloc (.cells #[.int .i64 kind, .int .i64 id, .int .i64 g, .int .i64 x] 35)) (.cells #[.slice none 0 0, .int .i64 0] 30)
  rw [hw0, World.size_alloc, World.size_alloc] at ho
  have ST := Lib.hid st
  have ST0 := Lib.hid (st.below HB0.out)
  have HF := Lib.hid st.few
  have g0 := (hnew 0).1
  have g1 := (hnew 1).1
  have a0 := (hnew 0).2.1
  have a1 := (hnew 1).2.1
  have a2 := (hnew 2).2.1
  have a3 := (hnew 3).2.1
  simp only [List.getElem?_toArray, List.getElem?_cons_zero, List.getElem?_cons_succ] at g0 g1 a0 a1 a2 a3
  obtain ⟨n, hnn⟩ : ∃ n, r.n = n := ⟨_, rfl⟩
  have HNN := Lib.hid hnn
  obtain ⟨clk, hck⟩ : ∃ n, r.clk = n := ⟨_, rfl⟩
  have HCK := Lib.hid hck
  obtain ⟨p, hp⟩ : ∃ p, W.heap.size = p := ⟨_, rfl⟩
  have HP := Lib.hid hp
  have HNF := Lib.hid (show ∀ k, p ≤ k → ¬ Foot tb sv fv k from fun k hk hf => by have := st.held.lies.foot hf; omega)
  rw [hp] at g0 g1 a0 a1 a2 a3 ho hs0
  have HO := Lib.hid ho
  have HW0 := Lib.hid hs0
  have l0 : p < w0.heap.size := by omega
  have l1 : p + 1 < w0.heap.size := by omega
  have l2 : p + 1 + 1 < w0.heap.size := by omega
  have HL0 := Lib.hid l0
  have HL1 := Lib.hid l1
  have HL2 := Lib.hid l2
  have HK5 := Lib.hid hk5
  rw [hnn] at g0 hw0
  rw [hck] at g1 hw0 hk5
  have HBX := Lib.hid (show Boxes p b n c clk kind id g x w0 from ⟨l2, g0, g1, a0, a1, a2, a3, HO.out⟩)
  have HDROP := Lib.hid (drop_none w0 tb sv fv s id g ST0.out.held.lies (by have := ST.out.held.ok.mn; have := ST.out.held.ok.n1; omega) ST.out.held.ok.n0 (fun h => by rw [hu] at h; cases h.1))
  have HHAS := Lib.hid (show ∀ w, RefAt w b r → Calls Try.prog 16 #[.agg #[.slice (some ⟨b, 0, none⟩) n c, .int .i64 clk], .int .i64 id] w (RetB (.bool false) w) from fun w hR => by
    have hh := hasR_any w b c r id hR HF.out.n1
    rw [hasR_eq ST.out.held.ok ST.out.agr, hu] at hh
    unfold refV at hh
    rw [hnn, hck] at hh
    exact hh)
  have HRB := Lib.hid ST0.out.side.at_
  have HDR := Lib.hid (show Below w0.heap.size w0 w0.drew from below_drewN (Below.refl _ _) 1)
  have Cg0 := Lib.hid (show ∀ w', Below w0.heap.size w0 w' → w'.cell? ⟨p, 0, none⟩ = some (.slice (some ⟨b, 0, none⟩) n c) from fun w' hB => (hB.cell (p := ⟨p, 0, none⟩) l0).trans g0)
  have Cg1 := Lib.hid (show ∀ w', Below w0.heap.size w0 w' → w'.cell? ⟨p, 1, none⟩ = some (.int .i64 clk) from fun w' hB => (hB.cell (p := ⟨p, 1, none⟩) l0).trans g1)
  have Ca1 := Lib.hid (show ∀ w', Below w0.heap.size w0 w' → w'.cell? ⟨p + 1, 1, none⟩ = some (.int .i64 id) from fun w' hB => (hB.cell (p := ⟨p + 1, 1, none⟩) l1).trans a1)
  have HK := Lib.hid hk
  clear hu
  rw [hnn, hck]
  clear hnew hnn hck ho hs0 st
  go_enter Try.func9, Try.ntmps9
  go_upto_region 1 with fail
  clear hw0 hp hk
  rcases HK.out with rfl | rfl
  all_goals
    go_wp2_with fail
    refine HDROP.out.mono ?_
    rintro e w ⟨rfl, rfl⟩
    go_wp2_with fail
    refine wp_region_N (S1 := fun W => Below w0.heap.size w0 W) (S2 := fun _ => True) (N := fun _ => false) (by kernel_rfl) ?_
    change wpAnyN _ _ _ _ _ _ _ 18 (Array.replicate 18 false) _ _
    refine wpAnyN_take false (i := 0) (v := .agg #[.slice (some ⟨b, 0, none⟩) n c, .int .i64 clk]) rfl (by kernel_rfl) (by kernel_rfl) (by kernel_rfl) (fun _ _ _ h => h) (.inl ⟨by kernel_rfl, fun W hS => ?_⟩) ⟨HDR.out, fun h => by cases h⟩ ?_
    · simp [execOp, Act.eval, go_sem, Cg0.out _ hS.1, Cg1.out _ hS.1]
    refine wpAnyN_take false (i := 1) (v := .pointer (some ⟨p + 1, 1, none⟩)) rfl (by kernel_rfl) (by kernel_rfl) (by kernel_rfl) (fun _ _ _ h => h) (.inl ⟨by kernel_rfl, fun W hS => ?_⟩) ⟨HDR.out, fun h => by cases h⟩ ?_
    · simp [execOp, Act.eval, Act.put, go_sem]
    refine wpAnyN_take false (i := 2) (v := .int .i64 id) rfl (by kernel_rfl) (by kernel_rfl) (by kernel_rfl) (fun _ _ _ h => h) (.inl ⟨by kernel_rfl, fun W hS => ?_⟩) ⟨HDR.out, fun h => by cases h⟩ ?_
    · simp [execOp, Act.eval, Act.put, go_sem, Ca1.out _ hS.1]
    refine wpAnyN_step (i := 3) (by kernel_rfl) rfl (by kernel_rfl) ?_
    intro K' hK
    try simp only [Act.put]
    go_simp
    refine (HHAS.out _ (HRB.out.below HDR.out)).mono ?_
    rintro e w5 ⟨rfl, hb⟩
    have HS5 := Lib.hid (HDR.out.trans hb)
    clear hb
    refine hK.out _ _ HS5.out (fun h => absurd h (by decide)) ?_
    refine wpAnyN_take false (i := 4) (v := .bool true) rfl (by kernel_rfl) (by kernel_rfl) (by kernel_rfl) (fun _ _ _ h => h) (.inl ⟨by kernel_rfl, fun W hS => ?_⟩) ⟨HS5.out, fun h => by cases h⟩ ?_
    · simp [execOp, Act.eval, go_sem]
    refine wpAnyN_take false (i := 5) (v := .bool true) rfl (by kernel_rfl) (by kernel_rfl) (by kernel_rfl) (fun _ _ _ h => h) (.inl ⟨by kernel_rfl, fun W hS => ?_⟩) ⟨HS5.out, fun h => by cases h⟩ ?_
    · simp [execOp, Act.eval, Act.put, go_sem]
    refine wpAnyN_take false (i := 6) (v := undef) rfl (by kernel_rfl) (by kernel_rfl) (by kernel_rfl) (fun _ _ _ h => h) (.inr ⟨by kernel_rfl, rfl⟩) ⟨HS5.out, fun h => by cases h⟩ ?_
    refine wpAnyN_take false (i := 7) (v := undef) rfl (by kernel_rfl) (by kernel_rfl) (by kernel_rfl) (fun _ _ _ h => h) (.inr ⟨by kernel_rfl, rfl⟩) ⟨HS5.out, fun h => by cases h⟩ ?_
    refine wpAnyN_take false (i := 8) (v := undef) rfl (by kernel_rfl) (by kernel_rfl) (by kernel_rfl) (fun _ _ _ h => h) (.inr ⟨by kernel_rfl, rfl⟩) ⟨HS5.out, fun h => by cases h⟩ ?_
    refine wpAnyN_take false (i := 9) (v := undef) rfl (by kernel_rfl) (by kernel_rfl) (by kernel_rfl) (fun _ _ _ h => h) (.inr ⟨by kernel_rfl, rfl⟩) ⟨HS5.out, fun h => by cases h⟩ ?_
    refine wpAnyN_take false (i := 10) (v := undef) rfl (by kernel_rfl) (by kernel_rfl) (by kernel_rfl) (fun _ _ _ h => h) (.inr ⟨by kernel_rfl, rfl⟩) ⟨HS5.out, fun h => by cases h⟩ ?_
    refine wpAnyN_take false (i := 11) (v := undef) rfl (by kernel_rfl) (by kernel_rfl) (by kernel_rfl) (fun _ _ _ h => h) (.inr ⟨by kernel_rfl, rfl⟩) ⟨HS5.out, fun h => by cases h⟩ ?_
    refine wpAnyN_take false (i := 12) (v := undef) rfl (by kernel_rfl) (by kernel_rfl) (by kernel_rfl) (fun _ _ _ h => h) (.inr ⟨by kernel_rfl, rfl⟩) ⟨HS5.out, fun h => by cases h⟩ ?_
    refine wpAnyN_take false (i := 14) (v := undef) rfl (by kernel_rfl) (by kernel_rfl) (by kernel_rfl) (fun _ _ _ h => h) (.inr ⟨by kernel_rfl, rfl⟩) ⟨HS5.out, fun h => by cases h⟩ ?_
    refine wpAnyN_take false (i := 15) (v := undef) rfl (by kernel_rfl) (by kernel_rfl) (by kernel_rfl) (fun _ _ _ h => h) (.inr ⟨by kernel_rfl, rfl⟩) ⟨HS5.out, fun h => by cases h⟩ ?_
    refine wpAnyN_take false (i := 13) (v := undef) rfl (by kernel_rfl) (by kernel_rfl) (by kernel_rfl) (fun _ _ _ h => h) (.inr ⟨by kernel_rfl, rfl⟩) ⟨HS5.out, fun h => by cases h⟩ ?_
    refine wpAnyN_take false (i := 16) (v := undef) rfl (by kernel_rfl) (by kernel_rfl) (by kernel_rfl) (fun _ _ _ h => h) (.inr ⟨by kernel_rfl, rfl⟩) ⟨HS5.out, fun h => by cases h⟩ ?_
    refine wpAnyN_take false (i := 17) (v := .bool true) rfl (by kernel_rfl) (by kernel_rfl) (by kernel_rfl) (fun _ _ _ h => h) (.inl ⟨by kernel_rfl, fun W hS => ?_⟩) ⟨HS5.out, fun h => by cases h⟩ ?_
    · simp [execOp, Act.eval, Act.put, go_sem]
    refine wpAnyN_done (by kernel_rfl) ?_
    simp only [Act.put]
    go_simp
    have HBX1 := Lib.hid (HBX.out.below HS5.out)
    clear l0 l1 l2 g0 g1 a0 a1 a2 a3
    obtain ⟨l2, g0, g1, a0, a1, a2, a3, _⟩ := HBX1.out
    obtain ⟨o0, o1, of0, of1⟩ := HBX1.out.outs
    have l1 : p + 1 < _ := Nat.lt_of_succ_lt l2
    have l0 : p < _ := Nat.lt_of_succ_lt l1
    go_wp2_with fail
    have hres := two_set HBX1.out.ho (.slice (some ⟨b, 0, none⟩) n c) (.int .i64 clk)
    refine bodyPost_ret (v := .tuple #[.agg #[.slice (some ⟨b, 0, none⟩) n c, .int .i64 clk], .bool true]) (results_row_tmp rfl _ _ (p + 1 + 1) _ _ _ _ rfl hres Try.underlying30 rfl (Try.sizeTable _ _) _ rfl) rfl ?_
    have hle : W.heap.size ≤ p + 1 + 1 := by rw [HP.out]; omega
    have hbel : Below W.heap.size W ((w5.setCell ⟨p + 1 + 1, 0, none⟩ (.slice (some ⟨b, 0, none⟩) n c)).setCell ⟨p + 1 + 1, 1, none⟩ (.int .i64 clk)) := ((HB0.out.trans (HS5.out.mono HB0.out.size)).setCell (p := ⟨p + 1 + 1, 0, none⟩) hle _).setCell (p := ⟨p + 1 + 1, 1, none⟩) hle _
    refine ⟨sv, fv, s, b, c, r, ?_, ST.out.below hbel, rfl, by rw [HCK.out]; omega, Apart.of_below hbel, Grew.refl _ _, Grew.refl _ _⟩
    unfold refV
    rw [HNN.out, HCK.out]

end Go.Proofs.Ytgpbgakijjdkoaa
