/-
  step of the law: further calls.
  Conditions: both tables lie in memory, and agree.
-/
import Derived.Test.YtgpbgakijjdkoaaStep
set_option linter.unusedVariables false
namespace Go.Proofs.Ytgpbgakijjdkoaa
open Go.RowKit TI

set_option maxRecDepth 100000 in
set_option maxHeartbeats 16000000 in
theorem step_drop_no2 (B : Nat) (W0 W : World) (tb : Nat) (sv fv : Value) (s : Ts Int) (b c : Nat) (r : Rs) (kind id g x : Int) (st : Both B W0 W tb sv fv s b c r) (hk5 : r.clk ≤ 1000) (hk : kind = 2 ∨ kind = 3) (hu : inU s id = true) (hg : ¬ (s.gen (id.toNat - 1) : Int) = g) :
    Calls Try.prog 9 #[.pointer (some ⟨tb, 0, none⟩), refV b c r, .agg #[.int .i64 kind, .int .i64 id, .int .i64 g, .int .i64 x]] W (StepPost B W0 W tb sv fv s.n r.clk) := by
  obtain ⟨i, hid, hi, hui⟩ := inU_some hu
  have hmn := st.held.ok.mn
  have hir : i < r.n := by rw [st.agr.n]; omega
  have HIR := Lib.hid hir
  have hgi : id.toNat - 1 = i := by omega
  obtain ⟨x0, hx0⟩ : ∃ y, r.X i = y := ⟨_, rfl⟩
  obtain ⟨t0, ht0⟩ : ∃ y, r.tk i = y := ⟨_, rfl⟩
  obtain ⟨fd0, hfd0⟩ : ∃ y, r.fd i = y := ⟨_, rfl⟩
  obtain ⟨wh0, hwh0⟩ : ∃ y, r.wh i = y := ⟨_, rfl⟩
  obtain ⟨fd1, hfd1⟩ : ∃ y, fd0 + 1 = y := ⟨_, rfl⟩
  have bfd := st.few.fd i hir
  have hgf := st.agr.gen i hi
  rw [hfd0] at hgf bfd
  rw [hfd1] at hgf
  have HGEN := Lib.hid (show ∀ w, Calls Try.prog 17 #[.agg #[.int .i64 x0, .bool t0, .int .i64 fd0, .int .i64 wh0]] w (RetB (.int .i64 fd1) w) from fun w => by
    rw [← hfd1]
    exact gen_any w x0 t0 fd0 wh0 bfd)
  unfold refV
  obtain ⟨w0, hw0⟩ : ∃ w0, ((W.alloc (.cells #[.slice (some ⟨b, 0, none⟩) r.n c, .int .i64 r.clk] 30)).alloc (.cells #[.int .i64 kind, .int .i64 id, .int .i64 g, .int .i64 x] 35)).alloc (.cells #[.slice none 0 0, .int .i64 0] 30) = w0 := ⟨_, rfl⟩
  have HB0 := Lib.hid (show Below W.heap.size W w0 by rw [← hw0]; exact (((Below.refl _ _).alloc (Nat.le_refl _) _).alloc (by rw [World.size_alloc]; omega) _).alloc (by rw [World.size_alloc, World.size_alloc]; omega) _)
  have hs0 : w0.heap.size = W.heap.size + 3 := by rw [← hw0, World.size_alloc, World.size_alloc, World.size_alloc]
  have hnew := fun j => by have := three_new W #[.slice (some ⟨b, 0, none⟩) r.n c, .int .i64 r.clk] #[.int .i64 kind, .int .i64 id, .int .i64 g, .int .i64 x] #[.slice none 0 0, .int .i64 0] 30 35 30 j; rw [hw0] at this; exact this
  have ho := heap_alloc_new ((W.alloc (.cells #[.slice (some ⟨b, 0, none⟩) r.n c, .int .i64 r.clk] 30)).alloc (.cells #[.int .i64 kind, .int .i64 id, .int .i64 g, .int .i64 x] 35)) (.cells #[.slice none 0 0, .int .i64 0] 30)
  rw [hw0, World.size_alloc, World.size_alloc] at ho
  have ST := Lib.hid st
  have ST0 := Lib.hid (st.below HB0.out)
  have HF := Lib.hid st.few
  have g0 := (hnew 0).1
  have g1 := (hnew 1).1
  have a0 := (hnew 0).2.1
  have a1 := (hnew 1).2.1
  have a2 := (hnew 2).2.1
  have a3 := (hnew 3).2.1
  simp only [List.getElem?_toArray, List.getElem?_cons_zero, List.getElem?_cons_succ] at g0 g1 a0 a1 a2 a3
  obtain ⟨n, hnn⟩ : ∃ n, r.n = n := ⟨_, rfl⟩
  have HNN := Lib.hid hnn
  obtain ⟨clk, hck⟩ : ∃ n, r.clk = n := ⟨_, rfl⟩
  have HCK := Lib.hid hck
  obtain ⟨p, hp⟩ : ∃ p, W.heap.size = p := ⟨_, rfl⟩
  have HP := Lib.hid hp
  have HNF := Lib.hid (show ∀ k, p ≤ k → ¬ Foot tb sv fv k from fun k hk hf => by have := st.held.lies.foot hf; omega)
  rw [hp] at g0 g1 a0 a1 a2 a3 ho hs0
  have HO := Lib.hid ho
  have HW0 := Lib.hid hs0
  have l0 : p < w0.heap.size := by omega
  have l1 : p + 1 < w0.heap.size := by omega
  have l2 : p + 1 + 1 < w0.heap.size := by omega
  have HL0 := Lib.hid l0
  have HL1 := Lib.hid l1
  have HL2 := Lib.hid l2
  have HK5 := Lib.hid hk5
  rw [hnn] at g0 hw0
  rw [hck] at g1 hw0 hk5
  have HBX := Lib.hid (show Boxes p b n c clk kind id g x w0 from ⟨l2, g0, g1, a0, a1, a2, a3, HO.out⟩)
  have HDROP := Lib.hid (drop_none w0 tb sv fv s id g ST0.out.held.lies (by have := ST.out.held.ok.mn; have := ST.out.held.ok.n1; omega) ST.out.held.ok.n0 (fun h => hg h.2))
  have HHAS := Lib.hid (show ∀ w, RefAt w b r → Calls Try.prog 16 #[.agg #[.slice (some ⟨b, 0, none⟩) n c, .int .i64 clk], .int .i64 id] w (RetB (.bool true) w) from fun w hR => by
    have hh := hasR_any w b c r id hR HF.out.n1
    rw [hasR_eq ST.out.held.ok ST.out.agr, hu] at hh
    unfold refV at hh
    rw [hnn, hck] at hh
    exact hh)
  have HRB := Lib.hid ST0.out.side.at_
  have HDR := Lib.hid (show Below w0.heap.size w0 w0.drew from below_drewN (Below.refl _ _) 1)
  obtain ⟨k0, k1, k2, k3⟩ := HRB.out.at_ i HIR.out
  rw [hx0] at k0
  rw [ht0] at k1
  rw [hfd0] at k2
  rw [hwh0] at k3
  have hbl := HRB.out.lt
  have Cg0 := Lib.hid (show ∀ w', Below w0.heap.size w0 w' → w'.cell? ⟨p, 0, none⟩ = some (.slice (some ⟨b, 0, none⟩) n c) from fun w' hB => (hB.cell (p := ⟨p, 0, none⟩) l0).trans g0)
  have Cg1 := Lib.hid (show ∀ w', Below w0.heap.size w0 w' → w'.cell? ⟨p, 1, none⟩ = some (.int .i64 clk) from fun w' hB => (hB.cell (p := ⟨p, 1, none⟩) l0).trans g1)
  have Ca1 := Lib.hid (show ∀ w', Below w0.heap.size w0 w' → w'.cell? ⟨p + 1, 1, none⟩ = some (.int .i64 id) from fun w' hB => (hB.cell (p := ⟨p + 1, 1, none⟩) l1).trans a1)
  have Ca2 := Lib.hid (show ∀ w', Below w0.heap.size w0 w' → w'.cell? ⟨p + 1, 2, none⟩ = some (.int .i64 g) from fun w' hB => (hB.cell (p := ⟨p + 1, 2, none⟩) l1).trans a2)
  have Ck0 := Lib.hid (show ∀ w', Below w0.heap.size w0 w' → w'.cell? ⟨b, i * 4, none⟩ = some (.int .i64 x0) from fun w' hB => (hB.cell (p := ⟨b, i * 4, none⟩) hbl).trans k0)
  have Ck1 := Lib.hid (show ∀ w', Below w0.heap.size w0 w' → w'.cell? ⟨b, i * 4 + 1, none⟩ = some (.bool t0) from fun w' hB => (hB.cell (p := ⟨b, i * 4 + 1, none⟩) hbl).trans k1)
  have Ck2 := Lib.hid (show ∀ w', Below w0.heap.size w0 w' → w'.cell? ⟨b, i * 4 + 2, none⟩ = some (.int .i64 fd0) from fun w' hB => (hB.cell (p := ⟨b, i * 4 + 2, none⟩) hbl).trans k2)
  have Ck3 := Lib.hid (show ∀ w', Below w0.heap.size w0 w' → w'.cell? ⟨b, i * 4 + 3, none⟩ = some (.int .i64 wh0) from fun w' hB => (hB.cell (p := ⟨b, i * 4 + 3, none⟩) hbl).trans k3)
  rw [hgi, hgf] at hg
  have z5 : ((fd1 : Int) != g) = true := by simpa using hg
  have z6 : ((fd1 : Int) == g) = false := by simpa using hg
  have z7 : ¬ (fd1 : Int) = g := hg
  have hn1 := st.few.n1
  have y1 : id - 1 = (i : Int) := by omega
  have bi : i ≤ 100000 := by omega
  have y2 : (i : Int) < (n : Int) := by rw [← hnn]; exact Int.ofNat_lt.2 hir
  have y3 : wrap64 (i : Int) = (i : Int) := wrap64_nat bi
  have y4 : IntKind.i64.wrap (i : Int) = (i : Int) := by rw [IntKind.wrap_i64]; unfold wrap64 at y3; exact y3
  have HK := Lib.hid hk
  clear hu hg hgi hgf hfd1 hfd0 hx0 ht0 hwh0 bfd hid hi hui hmn hir hn1 bi
  rw [hnn, hck]
  clear hnew hnn hck ho hs0 st
  go_enter Try.func9, Try.ntmps9
  go_upto_region 1 with fail
  clear hw0 hp hk
  rcases HK.out with rfl | rfl
  all_goals
    go_wp2_with fail
    refine HDROP.out.mono ?_
    rintro e w ⟨rfl, rfl⟩
    go_wp2_with fail
    refine wp_region_N (S1 := fun W => Below w0.heap.size w0 W) (S2 := fun _ => True) (N := fun _ => false) (by kernel_rfl) ?_
    change wpAnyN _ _ _ _ _ _ _ 18 (Array.replicate 18 false) _ _
    refine wpAnyN_take false (i := 0) (v := .agg #[.slice (some ⟨b, 0, none⟩) n c, .int .i64 clk]) rfl (by kernel_rfl) (by kernel_rfl) (by kernel_rfl) (fun _ _ _ h => h) (.inl ⟨by kernel_rfl, fun W hS => ?_⟩) ⟨HDR.out, fun h => by cases h⟩ ?_
    · simp [execOp, Act.eval, go_sem, Cg0.out _ hS.1, Cg1.out _ hS.1]
    refine wpAnyN_take false (i := 1) (v := .pointer (some ⟨p + 1, 1, none⟩)) rfl (by kernel_rfl) (by kernel_rfl) (by kernel_rfl) (fun _ _ _ h => h) (.inl ⟨by kernel_rfl, fun W hS => ?_⟩) ⟨HDR.out, fun h => by cases h⟩ ?_
    · simp [execOp, Act.eval, Act.put, go_sem]
    refine wpAnyN_take false (i := 2) (v := .int .i64 id) rfl (by kernel_rfl) (by kernel_rfl) (by kernel_rfl) (fun _ _ _ h => h) (.inl ⟨by kernel_rfl, fun W hS => ?_⟩) ⟨HDR.out, fun h => by cases h⟩ ?_
    · simp [execOp, Act.eval, Act.put, go_sem, Ca1.out _ hS.1]
    refine wpAnyN_step (i := 3) (by kernel_rfl) rfl (by kernel_rfl) ?_
    intro K' hK
    try simp only [Act.put]
    go_simp
    refine (HHAS.out _ (HRB.out.below HDR.out)).mono ?_
    rintro e w5 ⟨rfl, hb⟩
    have HS5 := Lib.hid (HDR.out.trans hb)
    clear hb
    refine hK.out _ _ HS5.out (fun h => absurd h (by decide)) ?_
    refine wpAnyN_take false (i := 4) (v := .bool false) rfl (by kernel_rfl) (by kernel_rfl) (by kernel_rfl) (fun _ _ _ h => h) (.inl ⟨by kernel_rfl, fun W hS => ?_⟩) ⟨HS5.out, fun h => by cases h⟩ ?_
    · simp [execOp, Act.eval, go_sem]
    refine wpAnyN_take false (i := 5) (v := .bool false) rfl (by kernel_rfl) (by kernel_rfl) (by kernel_rfl) (fun _ _ _ h => h) (.inl ⟨by kernel_rfl, fun W hS => ?_⟩) ⟨HS5.out, fun h => by cases h⟩ ?_
    · simp [execOp, Act.eval, Act.put, go_sem]
    refine wpAnyN_take false (i := 6) (v := .pointer (some ⟨p, 0, none⟩)) rfl (by kernel_rfl) (by kernel_rfl) (by kernel_rfl) (fun _ _ _ h => h) (.inl ⟨by kernel_rfl, fun W hS => ?_⟩) ⟨HS5.out, fun h => by cases h⟩ ?_
    · simp [execOp, Act.eval, Act.put, go_sem]
    refine wpAnyN_take false (i := 7) (v := .slice (some ⟨b, 0, none⟩) n c) rfl (by kernel_rfl) (by kernel_rfl) (by kernel_rfl) (fun _ _ _ h => h) (.inl ⟨by kernel_rfl, fun W hS => ?_⟩) ⟨HS5.out, fun h => by cases h⟩ ?_
    · simp [execOp, Act.eval, Act.put, go_sem, Cg0.out _ hS.1]
    refine wpAnyN_take false (i := 8) (v := .pointer (some ⟨p + 1, 1, none⟩)) rfl (by kernel_rfl) (by kernel_rfl) (by kernel_rfl) (fun _ _ _ h => h) (.inl ⟨by kernel_rfl, fun W hS => ?_⟩) ⟨HS5.out, fun h => by cases h⟩ ?_
    · simp [execOp, Act.eval, Act.put, go_sem]
    refine wpAnyN_take false (i := 9) (v := .int .i64 id) rfl (by kernel_rfl) (by kernel_rfl) (by kernel_rfl) (fun _ _ _ h => h) (.inl ⟨by kernel_rfl, fun W hS => ?_⟩) ⟨HS5.out, fun h => by cases h⟩ ?_
    · simp [execOp, Act.eval, Act.put, go_sem, Ca1.out _ hS.1]
    refine wpAnyN_take false (i := 10) (v := .int .i64 i) rfl (by kernel_rfl) (by kernel_rfl) (by kernel_rfl) (fun _ _ _ h => h) (.inl ⟨by kernel_rfl, fun W hS => ?_⟩) ⟨HS5.out, fun h => by cases h⟩ ?_
    · simp [execOp, Act.eval, Act.put, go_sem, y1, y4]
    refine wpAnyN_take false (i := 11) (v := .pointer (some ⟨b, i * 4, none⟩)) rfl (by kernel_rfl) (by kernel_rfl) (by kernel_rfl) (fun _ _ _ h => h) (.inl ⟨by kernel_rfl, fun W hS => ?_⟩) ⟨HS5.out, fun h => by cases h⟩ ?_
    · simp [execOp, Act.eval, Act.put, go_sem, y2]
    refine wpAnyN_take false (i := 12) (v := .agg #[.int .i64 x0, .bool t0, .int .i64 fd0, .int .i64 wh0]) rfl (by kernel_rfl) (by kernel_rfl) (by kernel_rfl) (fun _ _ _ h => h) (.inl ⟨by kernel_rfl, fun W hS => ?_⟩) ⟨HS5.out, fun h => by cases h⟩ ?_
    · simp [execOp, Act.eval, Act.put, go_sem, Ck0.out _ hS.1, Ck1.out _ hS.1, Ck2.out _ hS.1, Ck3.out _ hS.1]
    refine wpAnyN_take false (i := 14) (v := .pointer (some ⟨p + 1, 2, none⟩)) rfl (by kernel_rfl) (by kernel_rfl) (by kernel_rfl) (fun _ _ _ h => h) (.inl ⟨by kernel_rfl, fun W hS => ?_⟩) ⟨HS5.out, fun h => by cases h⟩ ?_
    · simp [execOp, Act.eval, Act.put, go_sem]
    refine wpAnyN_take false (i := 15) (v := .int .i64 g) rfl (by kernel_rfl) (by kernel_rfl) (by kernel_rfl) (fun _ _ _ h => h) (.inl ⟨by kernel_rfl, fun W hS => ?_⟩) ⟨HS5.out, fun h => by cases h⟩ ?_
    · simp [execOp, Act.eval, Act.put, go_sem, Ca2.out _ hS.1]
    refine wpAnyN_step (i := 13) (by kernel_rfl) rfl (by kernel_rfl) ?_
    intro K' hK
    try simp only [Act.put]
    go_simp
    refine (HGEN.out _).mono ?_
    rintro e w6 ⟨rfl, hb⟩
    have HS6 := Lib.hid (HS5.out.trans (hb.mono HS5.out.size))
    clear hb
    refine hK.out _ _ HS6.out (fun h => absurd h (by decide)) ?_
    refine wpAnyN_take false (i := 16) (v := .bool true) rfl (by kernel_rfl) (by kernel_rfl) (by kernel_rfl) (fun _ _ _ h => h) (.inl ⟨by kernel_rfl, fun W hS => ?_⟩) ⟨HS6.out, fun h => by cases h⟩ ?_
    · simp [execOp, Act.eval, go_sem, z5]
    refine wpAnyN_take false (i := 17) (v := .bool true) rfl (by kernel_rfl) (by kernel_rfl) (by kernel_rfl) (fun _ _ _ h => h) (.inl ⟨by kernel_rfl, fun W hS => ?_⟩) ⟨HS6.out, fun h => by cases h⟩ ?_
    · simp [execOp, Act.eval, Act.put, go_sem]
    refine wpAnyN_done (by kernel_rfl) ?_
    simp only [Act.put]
    go_simp
    have HBX1 := Lib.hid (HBX.out.below HS6.out)
    clear l0 l1 l2 g0 g1 a0 a1 a2 a3 k0 k1 k2 k3
    obtain ⟨l2, g0, g1, a0, a1, a2, a3, _⟩ := HBX1.out
    obtain ⟨o0, o1, of0, of1⟩ := HBX1.out.outs
    have l1 : p + 1 < _ := Nat.lt_of_succ_lt l2
    have l0 : p < _ := Nat.lt_of_succ_lt l1
    go_wp2_with fail
    have hres := two_set HBX1.out.ho (.slice (some ⟨b, 0, none⟩) n c) (.int .i64 clk)
    refine bodyPost_ret (v := .tuple #[.agg #[.slice (some ⟨b, 0, none⟩) n c, .int .i64 clk], .bool true]) (results_row_tmp rfl _ _ (p + 1 + 1) _ _ _ _ rfl hres Try.underlying30 rfl (Try.sizeTable _ _) _ rfl) rfl ?_
    have hle : W.heap.size ≤ p + 1 + 1 := by rw [HP.out]; omega
    have hbel : Below W.heap.size W ((w6.setCell ⟨p + 1 + 1, 0, none⟩ (.slice (some ⟨b, 0, none⟩) n c)).setCell ⟨p + 1 + 1, 1, none⟩ (.int .i64 clk)) := ((HB0.out.trans (HS6.out.mono HB0.out.size)).setCell (p := ⟨p + 1 + 1, 0, none⟩) hle _).setCell (p := ⟨p + 1 + 1, 1, none⟩) hle _
    refine ⟨sv, fv, s, b, c, r, ?_, ST.out.below hbel, rfl, by rw [HCK.out]; omega, Apart.of_below hbel, Grew.refl _ _, Grew.refl _ _⟩
    unfold refV
    rw [HNN.out, HCK.out]

end Go.Proofs.Ytgpbgakijjdkoaa
