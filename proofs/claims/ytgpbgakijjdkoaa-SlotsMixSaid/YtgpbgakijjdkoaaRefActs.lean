/-
  Set, Drop and Take of the document.
  Conditions: where the table lies; its numbers are small.
-/
import Derived.Test.YtgpbgakijjdkoaaWith
set_option linter.unusedVariables false
namespace Go.Proofs.Ytgpbgakijjdkoaa
open Go.RowKit TI

theorem two_new (W : World) (a b : Array Value) (s t : TypeId) (j : Nat) :
    ((W.alloc (.cells a s)).alloc (.cells b t)).cell? ⟨W.heap.size, j, none⟩ = a[j]? ∧ ((W.alloc (.cells a s)).alloc (.cells b t)).heap[W.heap.size + 1]? = some (.cells b t (0, 0)) := by
  have s1 : (W.alloc (.cells a s)).heap.size = W.heap.size + 1 := World.size_alloc _ _
  have b1 : Below (W.heap.size + 1) (W.alloc (.cells a s)) ((W.alloc (.cells a s)).alloc (.cells b t)) := (Below.refl _ _).alloc (by omega) _
  refine ⟨?_, ?_⟩
  · rw [b1.cell (p := ⟨W.heap.size, j, none⟩) (Nat.lt_succ_self _), World.cell?_alloc_new]
  · rw [← s1]
    exact heap_alloc_new _ _
theorem RefAt.set {W : World} {b : Nat} {r : Rs} (h : RefAt W b r) {p : Addr} (hp : b ≠ p.block) (v : Value) : RefAt (W.setCell p v) b r := h.keep (by simp [World.setCell]) (Below.heap_setCell _ _ _ _ hp)
theorem frozen_of {W : World} {g : Nat} {cs : Array Value} {t : TypeId} (h : W.heap[g]? = some (.cells cs t (0, 0))) (j : Nat) : W.frozen? ⟨g, j, none⟩ = false := by simp [World.frozen?, h]
theorem cell_of {W : World} {g : Nat} {cs : Array Value} {t : TypeId} (h : W.heap[g]? = some (.cells cs t (0, 0))) (j : Nat) : W.cell? ⟨g, j, none⟩ = cs[j]? := cell_of_row W g j _ _ (0, 0) h

set_option maxRecDepth 100000 in
set_option maxHeartbeats 16000000 in
theorem refSet_any (W : World) (b c : Nat) (r : Rs) (i : Nat) (v : Int) (h : RefAt W b r) (hf : Few r) (hi : i < r.n) :
    Calls Try.prog 28 #[refV b c r, .int .i64 ((i + 1 : Nat) : Int), .int .i64 v] W (RetR (setR r i v) id W) := by
  obtain ⟨q, hq⟩ : ∃ q, i + 1 = q := ⟨_, rfl⟩
  have HQ := Lib.hid hq
  have HI := Lib.hid hi
  unfold refV
  obtain ⟨w0, hw0⟩ : ∃ w0, (W.alloc (.cells #[.slice (some ⟨b, 0, none⟩) r.n c, .int .i64 r.clk] 30)).alloc (.cells #[.slice none 0 0, .int .i64 0] 30) = w0 := ⟨_, rfl⟩
  have HB0 := Lib.hid (show Below W.heap.size W w0 by rw [← hw0]; exact ((Below.refl _ _).alloc (Nat.le_refl _) _).alloc (by rw [World.size_alloc]; omega) _)
  have hs0 : w0.heap.size = W.heap.size + 2 := by rw [← hw0, World.size_alloc, World.size_alloc]
  have hnew := fun j => by have := two_new W #[.slice (some ⟨b, 0, none⟩) r.n c, .int .i64 r.clk] #[.slice none 0 0, .int .i64 0] 30 30 j; rw [hw0] at this; exact this
  have HO0 := Lib.hid (hnew 0).2
  have g0 := (hnew 0).1
  have g1 := (hnew 1).1
  simp only [List.getElem?_toArray, List.getElem?_cons_zero, List.getElem?_cons_succ] at g0 g1
  have HR0 := Lib.hid (h.below HB0.out)
  have HF := Lib.hid hf
  have hclk := hf.clk
  have hn1 := hf.n1
  obtain ⟨n, hnn⟩ : ∃ n, r.n = n := ⟨_, rfl⟩
  have HNN := Lib.hid hnn
  obtain ⟨clk, hck⟩ : ∃ n, r.clk = n := ⟨_, rfl⟩
  have HCK := Lib.hid hck
  have HWITH := Lib.hid (show ∀ w, RefAt w b r → ∀ x t fd wh, Calls Try.prog 33 #[.agg #[.slice (some ⟨b, 0, none⟩) n c, .int .i64 clk], .int .i64 ((i + 1 : Nat) : Int), .agg #[.int .i64 x, .bool t, .int .i64 (fd : Nat), .int .i64 (wh : Nat)]] w (RetR (putR r i x t fd wh) id w) from fun w hR x t fd wh => by
    have := with_any w b c r i x t fd wh hR HF.out HI.out
    unfold refV at this
    rw [hnn, hck] at this
    exact this)
  rw [hq] at HWITH ⊢
  rw [hnn] at hi
  have y1 : (q : Int) - 1 = (i : Int) := by omega
  have y2 : (i : Int) < (n : Int) := Int.ofNat_lt.2 hi
  have bi : i ≤ 100000 := by omega
  have y3 : wrap64 (i : Int) = (i : Int) := wrap64_nat bi
  obtain ⟨k0, k1, k2, k3⟩ := HR0.out.at_ i HI.out
  obtain ⟨x0, hx0⟩ : ∃ x, r.X i = x := ⟨_, rfl⟩
  obtain ⟨t0, ht0⟩ : ∃ x, r.tk i = x := ⟨_, rfl⟩
  obtain ⟨fd0, hfd0⟩ : ∃ x, r.fd i = x := ⟨_, rfl⟩
  obtain ⟨wh0, hwh0⟩ : ∃ x, r.wh i = x := ⟨_, rfl⟩
  rw [hx0] at k0
  rw [ht0] at k1
  rw [hfd0] at k2
  rw [hwh0] at k3
  have HX0 := Lib.hid hx0
  have HT0 := Lib.hid ht0
  have HFD0 := Lib.hid hfd0
  have HWH0 := Lib.hid hwh0
  obtain ⟨p, hp⟩ : ∃ p, W.heap.size = p := ⟨_, rfl⟩
  have HP := Lib.hid hp
  rw [hnn, hck]
  rw [hnn, hck] at hw0
  rw [hnn, hp] at g0
  rw [hck, hp] at g1
  rw [hp] at hs0
  have HW0 := Lib.hid hs0
  have l0 : p < w0.heap.size := by omega
  have l1 : p + 1 < w0.heap.size := by omega
  have HL0 := Lib.hid l0
  have HL1 := Lib.hid l1
  have HOO := Lib.hid (show w0.heap[p + 1]? = some (.cells #[.slice none 0 0, .int .i64 0] 30 (0, 0)) by rw [← hp]; exact HO0.out)
  have HEQ := Lib.hid (show setR r i v = putR r i v (r.tk i) (r.fd i) (r.wh i) by unfold setR putR; rw [TI.upd_self, TI.upd_self, TI.upd_self])
  rw [HT0.out, HFD0.out, HWH0.out] at HEQ
  clear hnew hnn hck hq h hf hi hs0 hx0 ht0 hfd0 hwh0
  go_enter Try.func28, Try.ntmps28
  go_upto_region 1 with fail
  clear hw0 hp
  go_wp2_with fail
  generalize hw3 : w0.alloc (.cells #[.int .i64 v, .bool t0, .int .i64 fd0, .int .i64 wh0] 47) = w3
  have HB3 := Lib.hid (show Below w0.heap.size w0 w3 by
    rw [← hw3]
    exact (Below.refl _ _).alloc (Nat.le_refl _) _)
  have HR3 := HR0.out.below HB3.out
  clear hw3 g0 g1 k0 k1 k2 k3
  refine (HWITH.out w3 HR3 v t0 fd0 wh0).mono ?_
  rintro e w4 ⟨g, cap, rfl, hcap, href, hge, hbel⟩
  have HREF := Lib.hid href
  have HBEL := Lib.hid hbel
  have HCAP := Lib.hid hcap
  simp only [id_eq]
  unfold refV
  have HB4 := Lib.hid (HB3.out.trans (hbel.mono HB3.out.size))
  have n2 : p + 1 ≠ g := by have := HL1.out; have := HB3.out.size; omega
  have HGE := Lib.hid (Nat.le_trans HB3.out.size hge)
  have e4 := (HB4.out.block (p + 1) HL1.out).trans HOO.out
  have o0 := cell_of e4 0
  have o1 := cell_of e4 1
  simp only [List.getElem?_toArray, List.getElem?_cons_zero, List.getElem?_cons_succ] at o0 o1
  have of0 := frozen_of e4 0
  have of1 := frozen_of e4 1
  have E4 := Lib.hid e4
  obtain ⟨pn, hpn⟩ : ∃ x, (putR r i v t0 fd0 wh0).n = x := ⟨_, rfl⟩
  obtain ⟨pc, hpc⟩ : ∃ x, (putR r i v t0 fd0 wh0).clk = x := ⟨_, rfl⟩
  rw [hpn, hpc]
  have HPN := Lib.hid hpn
  have HPC := Lib.hid hpc
  clear href hbel hcap hge e4 hpn hpc
  go_wp2_with fail
  have hres := two_set E4.out (.slice (some ⟨g, 0, none⟩) pn cap) (.int .i64 pc)
  refine bodyPost_ret (v := .agg #[.slice (some ⟨g, 0, none⟩) pn cap, .int .i64 pc]) (results_cell_row rfl _ _ (p + 1) _ _ _ _ rfl hres Try.underlying30 rfl (Try.sizeTable _ _)) rfl ?_
  rw [HEQ.out]
  refine ⟨g, cap, ?_, HCAP.out, ?_, ?_, ?_⟩
  · unfold refV
    rw [HPN.out, HPC.out]
    try rfl
  · exact (HREF.out.set (p := ⟨p + 1, 0, none⟩) (fun e => n2 e.symm) _).set (p := ⟨p + 1, 1, none⟩) (fun e => n2 e.symm) _
  · rw [HP.out]; have := HGE.out; have := HW0.out; omega
  · have hle : W.heap.size ≤ p + 1 := by rw [HP.out]; omega
    exact ((HB0.out.trans (HB4.out.mono (by rw [HP.out, HW0.out]; omega))).setCell (p := ⟨p + 1, 0, none⟩) hle _).setCell (p := ⟨p + 1, 1, none⟩) hle _

set_option maxRecDepth 100000 in
set_option maxHeartbeats 16000000 in
theorem refDrop_any (W : World) (b c : Nat) (r : Rs) (i : Nat) (h : RefAt W b r) (hf : Few r) (hi : i < r.n) :
    Calls Try.prog 27 #[refV b c r, .int .i64 ((i + 1 : Nat) : Int)] W (RetR (dropR r i) id W) := by
  obtain ⟨q, hq⟩ : ∃ q, i + 1 = q := ⟨_, rfl⟩
  have HQ := Lib.hid hq
  have HI := Lib.hid hi
  unfold refV
  obtain ⟨w0, hw0⟩ : ∃ w0, (W.alloc (.cells #[.slice (some ⟨b, 0, none⟩) r.n c, .int .i64 r.clk] 30)).alloc (.cells #[.slice none 0 0, .int .i64 0] 30) = w0 := ⟨_, rfl⟩
  have HB0 := Lib.hid (show Below W.heap.size W w0 by rw [← hw0]; exact ((Below.refl _ _).alloc (Nat.le_refl _) _).alloc (by rw [World.size_alloc]; omega) _)
  have hs0 : w0.heap.size = W.heap.size + 2 := by rw [← hw0, World.size_alloc, World.size_alloc]
  have hnew := fun j => by have := two_new W #[.slice (some ⟨b, 0, none⟩) r.n c, .int .i64 r.clk] #[.slice none 0 0, .int .i64 0] 30 30 j; rw [hw0] at this; exact this
  have HO0 := Lib.hid (hnew 0).2
  have g0 := (hnew 0).1
  have g1 := (hnew 1).1
  simp only [List.getElem?_toArray, List.getElem?_cons_zero, List.getElem?_cons_succ] at g0 g1
  have HR0 := Lib.hid (h.below HB0.out)
  have HF := Lib.hid hf
  have hclk := hf.clk
  have hn1 := hf.n1
  obtain ⟨n, hnn⟩ : ∃ n, r.n = n := ⟨_, rfl⟩
  have HNN := Lib.hid hnn
  obtain ⟨clk, hck⟩ : ∃ n, r.clk = n := ⟨_, rfl⟩
  have HCK := Lib.hid hck
  have HWITH := Lib.hid (show ∀ w, RefAt w b r → ∀ x t fd wh, Calls Try.prog 33 #[.agg #[.slice (some ⟨b, 0, none⟩) n c, .int .i64 clk], .int .i64 ((i + 1 : Nat) : Int), .agg #[.int .i64 x, .bool t, .int .i64 (fd : Nat), .int .i64 (wh : Nat)]] w (RetR (putR r i x t fd wh) id w) from fun w hR x t fd wh => by
    have := with_any w b c r i x t fd wh hR HF.out HI.out
    unfold refV at this
    rw [hnn, hck] at this
    exact this)
  rw [hq] at HWITH ⊢
  rw [hnn] at hi
  have y1 : (q : Int) - 1 = (i : Int) := by omega
  have y2 : (i : Int) < (n : Int) := Int.ofNat_lt.2 hi
  have bi : i ≤ 100000 := by omega
  have y3 : wrap64 (i : Int) = (i : Int) := wrap64_nat bi
  obtain ⟨k0, k1, k2, k3⟩ := HR0.out.at_ i HI.out
  obtain ⟨x0, hx0⟩ : ∃ x, r.X i = x := ⟨_, rfl⟩
  obtain ⟨t0, ht0⟩ : ∃ x, r.tk i = x := ⟨_, rfl⟩
  obtain ⟨fd0, hfd0⟩ : ∃ x, r.fd i = x := ⟨_, rfl⟩
  obtain ⟨wh0, hwh0⟩ : ∃ x, r.wh i = x := ⟨_, rfl⟩
  rw [hx0] at k0
  rw [ht0] at k1
  rw [hfd0] at k2
  rw [hwh0] at k3
  have HX0 := Lib.hid hx0
  have HT0 := Lib.hid ht0
  have HFD0 := Lib.hid hfd0
  have HWH0 := Lib.hid hwh0
  obtain ⟨p, hp⟩ : ∃ p, W.heap.size = p := ⟨_, rfl⟩
  have HP := Lib.hid hp
  rw [hnn, hck]
  rw [hnn, hck] at hw0
  rw [hnn, hp] at g0
  rw [hck, hp] at g1
  rw [hp] at hs0
  have HW0 := Lib.hid hs0
  have l0 : p < w0.heap.size := by omega
  have l1 : p + 1 < w0.heap.size := by omega
  have HL0 := Lib.hid l0
  have HL1 := Lib.hid l1
  have HOO := Lib.hid (show w0.heap[p + 1]? = some (.cells #[.slice none 0 0, .int .i64 0] 30 (0, 0)) by rw [← hp]; exact HO0.out)
  have HEQ := Lib.hid (show dropR r i = putR r i 0 false (r.fd i + 1) (r.clk + 1) by rfl)
  rw [HFD0.out, HCK.out] at HEQ
  have bfd := hf.fd i HI.out
  rw [hfd0] at bfd
  rw [hck] at hclk
  clear hnew hnn hck hq h hf hi hs0 hx0 ht0 hfd0 hwh0 bi
  go_enter Try.func27, Try.ntmps27
  go_upto_region 1 with fail
  clear hw0 hp
  go_wp2_with fail
  generalize hw3 : w0.alloc (.cells #[.int .i64 0, .bool false, .int .i64 (fd0 + 1), .int .i64 (clk + 1)] 47) = w3
  have HB3 := Lib.hid (show Below w0.heap.size w0 w3 by
    rw [← hw3]
    exact (Below.refl _ _).alloc (Nat.le_refl _) _)
  have HR3 := HR0.out.below HB3.out
  clear hw3 g0 g1 k0 k1 k2 k3
  refine (HWITH.out w3 HR3 0 false (fd0 + 1) (clk + 1)).mono ?_
  rintro e w4 ⟨g, cap, rfl, hcap, href, hge, hbel⟩
  have HREF := Lib.hid href
  have HBEL := Lib.hid hbel
  have HCAP := Lib.hid hcap
  simp only [id_eq]
  unfold refV
  have HB4 := Lib.hid (HB3.out.trans (hbel.mono HB3.out.size))
  have n2 : p + 1 ≠ g := by have := HL1.out; have := HB3.out.size; omega
  have HGE := Lib.hid (Nat.le_trans HB3.out.size hge)
  have e4 := (HB4.out.block (p + 1) HL1.out).trans HOO.out
  have o0 := cell_of e4 0
  have o1 := cell_of e4 1
  simp only [List.getElem?_toArray, List.getElem?_cons_zero, List.getElem?_cons_succ] at o0 o1
  have of0 := frozen_of e4 0
  have of1 := frozen_of e4 1
  have E4 := Lib.hid e4
  obtain ⟨pn, hpn⟩ : ∃ x, (putR r i 0 false (fd0 + 1) (clk + 1)).n = x := ⟨_, rfl⟩
  obtain ⟨pc, hpc⟩ : ∃ x, (putR r i 0 false (fd0 + 1) (clk + 1)).clk = x := ⟨_, rfl⟩
  rw [hpn, hpc]
  have HPN := Lib.hid hpn
  have HPC := Lib.hid hpc
  clear href hbel hcap hge e4 hpn hpc
  go_wp2_with fail
  have hres := two_set E4.out (.slice (some ⟨g, 0, none⟩) pn cap) (.int .i64 pc)
  refine bodyPost_ret (v := .agg #[.slice (some ⟨g, 0, none⟩) pn cap, .int .i64 pc]) (results_cell_row rfl _ _ (p + 1) _ _ _ _ rfl hres Try.underlying30 rfl (Try.sizeTable _ _)) rfl ?_
  rw [HEQ.out]
  refine ⟨g, cap, ?_, HCAP.out, ?_, ?_, ?_⟩
  · unfold refV
    rw [HPN.out, HPC.out]
    try rfl
  · exact (HREF.out.set (p := ⟨p + 1, 0, none⟩) (fun e => n2 e.symm) _).set (p := ⟨p + 1, 1, none⟩) (fun e => n2 e.symm) _
  · rw [HP.out]; have := HGE.out; have := HW0.out; omega
  · have hle : W.heap.size ≤ p + 1 := by rw [HP.out]; omega
    exact ((HB0.out.trans (HB4.out.mono (by rw [HP.out, HW0.out]; omega))).setCell (p := ⟨p + 1, 0, none⟩) hle _).setCell (p := ⟨p + 1, 1, none⟩) hle _

set_option maxRecDepth 100000 in
set_option maxHeartbeats 16000000 in
theorem refTake_some (W : World) (b c : Nat) (r : Rs) (i : Nat) (v : Int) (h : RefAt W b r) (hf : Few r) (hi : i < r.n) (hw : whichT r r.n = i + 1) :
    Calls Try.prog 26 #[refV b c r, .int .i64 v] W (RetR (takeR r (i + 1) v) (fun x => .tuple #[x, .int .i64 ((i + 1 : Nat) : Int)]) W) := by
  obtain ⟨q, hq⟩ : ∃ q, i + 1 = q := ⟨_, rfl⟩
  have HQ := Lib.hid hq
  have HI := Lib.hid hi
  unfold refV
  obtain ⟨w0, hw0⟩ : ∃ w0, (W.alloc (.cells #[.slice (some ⟨b, 0, none⟩) r.n c, .int .i64 r.clk] 30)).alloc (.cells #[.slice none 0 0, .int .i64 0] 30) = w0 := ⟨_, rfl⟩
  have HB0 := Lib.hid (show Below W.heap.size W w0 by rw [← hw0]; exact ((Below.refl _ _).alloc (Nat.le_refl _) _).alloc (by rw [World.size_alloc]; omega) _)
  have hs0 : w0.heap.size = W.heap.size + 2 := by rw [← hw0, World.size_alloc, World.size_alloc]
  have hnew := fun j => by have := two_new W #[.slice (some ⟨b, 0, none⟩) r.n c, .int .i64 r.clk] #[.slice none 0 0, .int .i64 0] 30 30 j; rw [hw0] at this; exact this
  have HO0 := Lib.hid (hnew 0).2
  have g0 := (hnew 0).1
  have g1 := (hnew 1).1
  simp only [List.getElem?_toArray, List.getElem?_cons_zero, List.getElem?_cons_succ] at g0 g1
  have HR0 := Lib.hid (h.below HB0.out)
  have HF := Lib.hid hf
  have hclk := hf.clk
  have hn1 := hf.n1
  obtain ⟨n, hnn⟩ : ∃ n, r.n = n := ⟨_, rfl⟩
  have HNN := Lib.hid hnn
  obtain ⟨clk, hck⟩ : ∃ n, r.clk = n := ⟨_, rfl⟩
  have HCK := Lib.hid hck
  have HWITH := Lib.hid (show ∀ w, RefAt w b r → ∀ x t fd wh, Calls Try.prog 33 #[.agg #[.slice (some ⟨b, 0, none⟩) n c, .int .i64 clk], .int .i64 ((i + 1 : Nat) : Int), .agg #[.int .i64 x, .bool t, .int .i64 (fd : Nat), .int .i64 (wh : Nat)]] w (RetR (putR r i x t fd wh) id w) from fun w hR x t fd wh => by
    have := with_any w b c r i x t fd wh hR HF.out HI.out
    unfold refV at this
    rw [hnn, hck] at this
    exact this)
  have HWH := which_any w0 b c r HR0.out HF.out
  rw [hw] at HWH
  unfold refV at HWH
  rw [hnn, hck, hq] at HWH
  have HWH := Lib.hid HWH
  rw [hq] at HWITH ⊢
  rw [hnn] at hi
  have y1 : (q : Int) - 1 = (i : Int) := by omega
  have y2 : (i : Int) < (n : Int) := Int.ofNat_lt.2 hi
  have bi : i ≤ 100000 := by omega
  have y3 : wrap64 (i : Int) = (i : Int) := wrap64_nat bi
  obtain ⟨k0, k1, k2, k3⟩ := HR0.out.at_ i HI.out
  obtain ⟨x0, hx0⟩ : ∃ x, r.X i = x := ⟨_, rfl⟩
  obtain ⟨t0, ht0⟩ : ∃ x, r.tk i = x := ⟨_, rfl⟩
  obtain ⟨fd0, hfd0⟩ : ∃ x, r.fd i = x := ⟨_, rfl⟩
  obtain ⟨wh0, hwh0⟩ : ∃ x, r.wh i = x := ⟨_, rfl⟩
  rw [hx0] at k0
  rw [ht0] at k1
  rw [hfd0] at k2
  rw [hwh0] at k3
  have HX0 := Lib.hid hx0
  have HT0 := Lib.hid ht0
  have HFD0 := Lib.hid hfd0
  have HWH0 := Lib.hid hwh0
  obtain ⟨p, hp⟩ : ∃ p, W.heap.size = p := ⟨_, rfl⟩
  have HP := Lib.hid hp
  rw [hnn, hck]
  rw [hnn, hck] at hw0
  rw [hnn, hp] at g0
  rw [hck, hp] at g1
  rw [hp] at hs0
  have HW0 := Lib.hid hs0
  have l0 : p < w0.heap.size := by omega
  have l1 : p + 1 < w0.heap.size := by omega
  have HL0 := Lib.hid l0
  have HL1 := Lib.hid l1
  have HOO := Lib.hid (show w0.heap[p + 1]? = some (.cells #[.slice none 0 0, .int .i64 0] 30 (0, 0)) by rw [← hp]; exact HO0.out)
  have HEQ := Lib.hid (show takeR r q v = putR r i v true (r.fd i) (r.wh i) by
    unfold takeR putR
    rw [← hq, show i + 1 - 1 = i by omega, TI.upd_self, TI.upd_self])
  rw [HFD0.out, HWH0.out] at HEQ
  have y4 : ((q : Int) == 0) = false := by simp; omega
  clear hnew hnn hck hq h hf hi hs0 hx0 ht0 hfd0 hwh0 bi hw
  go_enter Try.func26, Try.ntmps26
  go_upto_region 1 with fail
  clear hw0 hp
  go_wp2_with fail
  refine HWH.out.mono ?_
  rintro e w1 ⟨rfl, hb1⟩
  have HB1 := Lib.hid hb1
  have g0 := (hb1.cell (p := ⟨p, 0, none⟩) l0).trans g0
  have g1 := (hb1.cell (p := ⟨p, 1, none⟩) l0).trans g1
  have k0 := (hb1.cell (p := ⟨b, i * 4, none⟩) HR0.out.lt).trans k0
  have k1 := (hb1.cell (p := ⟨b, i * 4 + 1, none⟩) HR0.out.lt).trans k1
  have k2 := (hb1.cell (p := ⟨b, i * 4 + 2, none⟩) HR0.out.lt).trans k2
  have k3 := (hb1.cell (p := ⟨b, i * 4 + 3, none⟩) HR0.out.lt).trans k3
  have l3 := Nat.lt_of_lt_of_le l0 hb1.size
  have HS1 := Lib.hid hb1.size
  clear hb1 l0 l1
  go_wp2_with fail
  generalize hw3 : w1.alloc (.cells #[.int .i64 v, .bool true, .int .i64 fd0, .int .i64 wh0] 47) = w3
  have HB3 := Lib.hid (show Below w0.heap.size w0 w3 by
    rw [← hw3]
    exact HB1.out.alloc HS1.out _)
  have HR3 := HR0.out.below HB3.out
  clear hw3 g0 g1 k0 k1 k2 k3
  refine (HWITH.out w3 HR3 v true fd0 wh0).mono ?_
  rintro e w4 ⟨g, cap, rfl, hcap, href, hge, hbel⟩
  have HREF := Lib.hid href
  have HBEL := Lib.hid hbel
  have HCAP := Lib.hid hcap
  simp only [id_eq]
  unfold refV
  have HB4 := Lib.hid (HB3.out.trans (hbel.mono HB3.out.size))
  have n2 : p + 1 ≠ g := by have := HL1.out; have := HB3.out.size; omega
  have HGE := Lib.hid (Nat.le_trans HB3.out.size hge)
  have e4 := (HB4.out.block (p + 1) HL1.out).trans HOO.out
  have o0 := cell_of e4 0
  have o1 := cell_of e4 1
  simp only [List.getElem?_toArray, List.getElem?_cons_zero, List.getElem?_cons_succ] at o0 o1
  have of0 := frozen_of e4 0
  have of1 := frozen_of e4 1
  have E4 := Lib.hid e4
  obtain ⟨pn, hpn⟩ : ∃ x, (putR r i v true fd0 wh0).n = x := ⟨_, rfl⟩
  obtain ⟨pc, hpc⟩ : ∃ x, (putR r i v true fd0 wh0).clk = x := ⟨_, rfl⟩
  rw [hpn, hpc]
  have HPN := Lib.hid hpn
  have HPC := Lib.hid hpc
  clear href hbel hcap hge e4 hpn hpc
  go_wp2_with fail
  have hres := two_set E4.out (.slice (some ⟨g, 0, none⟩) pn cap) (.int .i64 pc)
  refine bodyPost_ret (v := .tuple #[.agg #[.slice (some ⟨g, 0, none⟩) pn cap, .int .i64 pc], .int .i64 q]) (results_row_tmp rfl _ _ (p + 1) _ _ _ _ rfl hres Try.underlying30 rfl (Try.sizeTable _ _) _ rfl) rfl ?_
  rw [HEQ.out]
  refine ⟨g, cap, ?_, HCAP.out, ?_, ?_, ?_⟩
  · unfold refV
    rw [HPN.out, HPC.out]
    try rfl
  · exact (HREF.out.set (p := ⟨p + 1, 0, none⟩) (fun e => n2 e.symm) _).set (p := ⟨p + 1, 1, none⟩) (fun e => n2 e.symm) _
  · rw [HP.out]; have := HGE.out; have := HW0.out; omega
  · have hle : W.heap.size ≤ p + 1 := by rw [HP.out]; omega
    exact ((HB0.out.trans (HB4.out.mono (by rw [HP.out, HW0.out]; omega))).setCell (p := ⟨p + 1, 0, none⟩) hle _).setCell (p := ⟨p + 1, 1, none⟩) hle _

set_option maxRecDepth 100000 in
set_option maxHeartbeats 16000000 in
theorem refTake_none (W : World) (b c : Nat) (r : Rs) (v : Int) (h : RefAt W b r) (hf : Few r) (hw : whichT r r.n = 0) :
    Calls Try.prog 26 #[refV b c r, .int .i64 v] W (RetB (.tuple #[refV b c r, .int .i64 0]) W) := by
  unfold refV
  obtain ⟨w0, hw0⟩ : ∃ w0, (W.alloc (.cells #[.slice (some ⟨b, 0, none⟩) r.n c, .int .i64 r.clk] 30)).alloc (.cells #[.slice none 0 0, .int .i64 0] 30) = w0 := ⟨_, rfl⟩
  have HB0 := Lib.hid (show Below W.heap.size W w0 by rw [← hw0]; exact ((Below.refl _ _).alloc (Nat.le_refl _) _).alloc (by rw [World.size_alloc]; omega) _)
  have hs0 : w0.heap.size = W.heap.size + 2 := by rw [← hw0, World.size_alloc, World.size_alloc]
  have hnew := fun j => by have := two_new W #[.slice (some ⟨b, 0, none⟩) r.n c, .int .i64 r.clk] #[.slice none 0 0, .int .i64 0] 30 30 j; rw [hw0] at this; exact this
  have HO0 := Lib.hid (hnew 0).2
  have g0 := (hnew 0).1
  have g1 := (hnew 1).1
  simp only [List.getElem?_toArray, List.getElem?_cons_zero, List.getElem?_cons_succ] at g0 g1
  have HR0 := Lib.hid (h.below HB0.out)
  have HF := Lib.hid hf
  have hclk := hf.clk
  have hn1 := hf.n1
  obtain ⟨n, hnn⟩ : ∃ n, r.n = n := ⟨_, rfl⟩
  have HNN := Lib.hid hnn
  obtain ⟨clk, hck⟩ : ∃ n, r.clk = n := ⟨_, rfl⟩
  have HCK := Lib.hid hck
  have HWH := which_any w0 b c r HR0.out HF.out
  rw [hw] at HWH
  unfold refV at HWH
  rw [hnn, hck] at HWH
  have HWH := Lib.hid HWH
  obtain ⟨p, hp⟩ : ∃ p, W.heap.size = p := ⟨_, rfl⟩
  have HP := Lib.hid hp
  rw [hnn, hck]
  rw [hnn, hck] at hw0
  rw [hnn, hp] at g0
  rw [hck, hp] at g1
  rw [hp] at hs0
  have HW0 := Lib.hid hs0
  have l0 : p < w0.heap.size := by omega
  have l1 : p + 1 < w0.heap.size := by omega
  have HL0 := Lib.hid l0
  have HL1 := Lib.hid l1
  have HOO := Lib.hid (show w0.heap[p + 1]? = some (.cells #[.slice none 0 0, .int .i64 0] 30 (0, 0)) by rw [← hp]; exact HO0.out)
  clear hnew hnn hck h hf hs0 hw
  go_enter Try.func26, Try.ntmps26
  go_upto_region 1 with fail
  clear hw0 hp
  go_wp2_with fail
  refine HWH.out.mono ?_
  rintro e w1 ⟨rfl, hb1⟩
  have HB1 := Lib.hid hb1
  have g0 := (hb1.cell (p := ⟨p, 0, none⟩) l0).trans g0
  have g1 := (hb1.cell (p := ⟨p, 1, none⟩) l0).trans g1
  have e4 := (hb1.block (p + 1) HL1.out).trans HOO.out
  have o0 := cell_of e4 0
  have o1 := cell_of e4 1
  simp only [List.getElem?_toArray, List.getElem?_cons_zero, List.getElem?_cons_succ] at o0 o1
  have of0 := frozen_of e4 0
  have of1 := frozen_of e4 1
  have E4 := Lib.hid e4
  clear hb1 e4
  go_wp2_with fail
  have hres := two_set E4.out (.slice (some ⟨b, 0, none⟩) n c) (.int .i64 clk)
  refine bodyPost_ret (v := .tuple #[.agg #[.slice (some ⟨b, 0, none⟩) n c, .int .i64 clk], .int .i64 0]) (results_row_tmp rfl _ _ (p + 1) _ _ _ _ rfl hres Try.underlying30 rfl (Try.sizeTable _ _) _ rfl) rfl ?_
  refine ⟨rfl, ?_⟩
  have hle : W.heap.size ≤ p + 1 := by rw [HP.out]; omega
  exact ((HB0.out.trans (HB1.out.mono (by rw [HP.out, HW0.out]; omega))).setCell (p := ⟨p + 1, 0, none⟩) hle _).setCell (p := ⟨p + 1, 1, none⟩) hle _
end Go.Proofs.Ytgpbgakijjdkoaa
