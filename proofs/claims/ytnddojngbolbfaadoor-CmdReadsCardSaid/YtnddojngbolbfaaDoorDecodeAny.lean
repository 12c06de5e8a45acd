/-
  Decode, whatever the bytes (P11.2).
  Conditions: no more than 100000 bytes.
-/
import Derived.Test.YtnddojngbolbfaaDoorDecode
set_option linter.unusedVariables false
namespace Go.Proofs.YtnddojngbolbfaaDoor
open Go.RowKit


set_option maxRecDepth 100000 in
set_option maxHeartbeats 2000000 in
theorem decode_none (b off c x : Nat) (r : List Nat) (w : World) (hv : BytesAt w (.slice (some ⟨b, off, none⟩) (r.length + 1) c) (x :: r)) (eg1 : EG 27) (hfs : fieldsT (x : Int) = none) :
    Calls Tryd.prog 16 #[.slice (some ⟨b, off, none⟩) (r.length + 1) c] w (DecP (x :: r) w) := by
  have hb : Below w.heap.size w (w.alloc (.cells zero8 23)) := (Below.refl _ _).alloc (Nat.le_refl _) _
  have hz : CmdAt (w.alloc (.cells zero8 23)) w.heap.size zeroC := World.alloc_heap_new _ _
  have hx256 : x < 256 := hv.small (j := 0) rfl
  have HV := Lib.hid hv
  have HBY := Lib.hid (hv.keep hb)
  obtain ⟨A, c', e', h2, h3, h4, h5, h6⟩ := HBY.out
  injection e' with e1 e2 e3
  subst e1 e3
  obtain ⟨b', off', e'', hlt, hcell⟩ := h6 (by simp)
  injection e'' with e4
  injection e4 with e5 e6 _
  subst e5 e6
  have c0 := hcell 0 x rfl
  rw [Nat.add_zero] at c0
  have hlc : r.length + 1 ≤ c := by simpa using h2
  have hbl : b < (w.alloc (.cells zero8 23)).heap.size := hlt
  clear h6 hcell h4 h5 h2 h3 hlt e2
  clear hv
  go_enter Tryd.func16, Tryd.ntmps16
  go_upto_region 1 with fail
  generalize w.alloc (.cells zero8 23) = w1 at *
  have HZ := Lib.hid hz
  have HB := Lib.hid hb
  have hzl := hz.lt
  clear hz hb
  go_upto_region 4 with fail
  have hcc : CmdAt (w1.alloc (.cells #[.int .i64 x, .int .i64 0, .int .i64 0, .int .i64 0, .int .i64 0, .int .i64 0, .int .i64 0, .int .i64 0] 23)) w1.heap.size (opC x) := World.alloc_heap_new _ _
  have hb1 : Below w1.heap.size w1 (w1.alloc (.cells #[.int .i64 x, .int .i64 0, .int .i64 0, .int .i64 0, .int .i64 0, .int .i64 0, .int .i64 0, .int .i64 0] 23)) := (Below.refl _ _).alloc (Nat.le_refl _) _
  have HZ1 := Lib.hid (HZ.out.keep hb1)
  have HB1 := Lib.hid (HB.out.trans (hb1.mono HB.out.size))
  have HBY1 := Lib.hid (HBY.out.keep hb1)
  have hzz := World.size_alloc w1 (.cells #[.int .i64 x, .int .i64 0, .int .i64 0, .int .i64 0, .int .i64 0, .int .i64 0, .int .i64 0, .int .i64 0] 23)
  generalize w1.alloc (.cells #[.int .i64 x, .int .i64 0, .int .i64 0, .int .i64 0, .int .i64 0, .int .i64 0, .int .i64 0, .int .i64 0] 23) = w2 at *
  have HCC := Lib.hid hcc
  have k0 := hcc.cell (j := 0) (by decide)
  have hk0 : opC (x : Int) 0 = (x : Int) := rfl
  rw [hk0] at k0
  have HF := Lib.hid (fields_any eg1 (x : Int) w2)
  have hfn : fieldsN (x : Int) = -1 := by unfold fieldsN; rw [hfs]
  rw [hfn] at HF
  clear c0 hcc hb1 hfn
  go_wp2_with fail
  refine HF.out.mono ?_
  rintro e w3 ⟨rfl, hb3⟩
  have HZ3 := Lib.hid (HZ1.out.keep hb3)
  have HB3 := Lib.hid (HB1.out.trans (hb3.mono HB1.out.size))
  have HCC3 := Lib.hid (HCC.out.keep hb3)
  have HBY3 := Lib.hid (HBY1.out.keep hb3)
  have k3 := HCC3.out.cell (j := 0) (by decide)
  rw [hk0] at k3
  have hsz3 := hb3.size
  clear k0 hb3
  have HDT := Lib.hid (show decodeT (x :: r) = (zeroC, [(3, cmdS, (x : Int))]) by unfold decodeT; simp only; rw [hfs])
  clear hfs
  go_wp2_with fail
  refine (new_any 3 cmdS (x : Int) w3).mono ?_
  rintro e w4 ⟨u, rfl, he, hb4⟩
  have hz4 := HZ3.out.keep hb4
  have HD := Lib.hid (dec_end hz4 he (by omega) (HB3.out.trans (hb4.mono HB3.out.size)) (Nat.le_refl _) zeroC)
  obtain ⟨e0, e1, e2, e3, e4, e5, e6, e7⟩ := hz4.eight
  have fz := hz4.frozen
  clear he hb4 hz4 k3
  dsimp only
  repeat go_step
  refine bodyPost_ret (v := .tuple #[.agg (cmdA zeroC), u]) (results_row_tmp rfl _ _ w.heap.size _ _ _ _ rfl HD.out.1 Tryd.underlying23 rfl (Tryd.sizeCmd _) _ rfl) rfl ?_
  exact ⟨u, by rw [HDT.out], by rw [HDT.out]; exact HD.out.2.1, HD.out.2.2⟩

set_option maxRecDepth 100000 in
set_option maxHeartbeats 2000000 in
theorem decode_end (b off c x : Nat) (r : List Nat) (w : World) (hv : BytesAt w (.slice (some ⟨b, off, none⟩) (r.length + 1) c) (x :: r)) (eg1 : EG 27) (eg2 : EG 41) (eg3 : EG 34) (fs : List Nat) (hfs : fieldsT (x : Int) = some fs) (hl : r.length ≤ 100000) (hc1 : c = 1) :
    Calls Tryd.prog 16 #[.slice (some ⟨b, off, none⟩) (r.length + 1) c] w (DecP (x :: r) w) := by
  have hb : Below w.heap.size w (w.alloc (.cells zero8 23)) := (Below.refl _ _).alloc (Nat.le_refl _) _
  have hz : CmdAt (w.alloc (.cells zero8 23)) w.heap.size zeroC := World.alloc_heap_new _ _
  have hx256 : x < 256 := hv.small (j := 0) rfl
  have HV := Lib.hid hv
  have HBY := Lib.hid (hv.keep hb)
  obtain ⟨A, c', e', h2, h3, h4, h5, h6⟩ := HBY.out
  injection e' with e1 e2 e3
  subst e1 e3
  obtain ⟨b', off', e'', hlt, hcell⟩ := h6 (by simp)
  injection e'' with e4
  injection e4 with e5 e6 _
  subst e5 e6
  have c0 := hcell 0 x rfl
  rw [Nat.add_zero] at c0
  have hlc : r.length + 1 ≤ c := by simpa using h2
  have hbl : b < (w.alloc (.cells zero8 23)).heap.size := hlt
  clear h6 hcell h4 h5 h2 h3 hlt e2
  clear hv
  go_enter Tryd.func16, Tryd.ntmps16
  go_upto_region 1 with fail
  generalize w.alloc (.cells zero8 23) = w1 at *
  have HZ := Lib.hid hz
  have HB := Lib.hid hb
  have hzl := hz.lt
  clear hz hb
  go_upto_region 4 with fail
  have hcc : CmdAt (w1.alloc (.cells #[.int .i64 x, .int .i64 0, .int .i64 0, .int .i64 0, .int .i64 0, .int .i64 0, .int .i64 0, .int .i64 0] 23)) w1.heap.size (opC x) := World.alloc_heap_new _ _
  have hb1 : Below w1.heap.size w1 (w1.alloc (.cells #[.int .i64 x, .int .i64 0, .int .i64 0, .int .i64 0, .int .i64 0, .int .i64 0, .int .i64 0, .int .i64 0] 23)) := (Below.refl _ _).alloc (Nat.le_refl _) _
  have HZ1 := Lib.hid (HZ.out.keep hb1)
  have HB1 := Lib.hid (HB.out.trans (hb1.mono HB.out.size))
  have HBY1 := Lib.hid (HBY.out.keep hb1)
  have hzz := World.size_alloc w1 (.cells #[.int .i64 x, .int .i64 0, .int .i64 0, .int .i64 0, .int .i64 0, .int .i64 0, .int .i64 0, .int .i64 0] 23)
  generalize w1.alloc (.cells #[.int .i64 x, .int .i64 0, .int .i64 0, .int .i64 0, .int .i64 0, .int .i64 0, .int .i64 0, .int .i64 0] 23) = w2 at *
  have HCC := Lib.hid hcc
  have k0 := hcc.cell (j := 0) (by decide)
  have hk0 : opC (x : Int) 0 = (x : Int) := rfl
  rw [hk0] at k0
  have HF := Lib.hid (fields_any eg1 (x : Int) w2)
  have hfn : fieldsN (x : Int) = (fs.length : Int) := by unfold fieldsN; rw [hfs]
  rw [hfn] at HF
  clear c0 hcc hb1 hfn
  go_wp2_with fail
  refine HF.out.mono ?_
  rintro e w3 ⟨rfl, hb3⟩
  have HZ3 := Lib.hid (HZ1.out.keep hb3)
  have HB3 := Lib.hid (HB1.out.trans (hb3.mono HB1.out.size))
  have HCC3 := Lib.hid (HCC.out.keep hb3)
  have HBY3 := Lib.hid (HBY1.out.keep hb3)
  have k3 := HCC3.out.cell (j := 0) (by decide)
  rw [hk0] at k3
  have hsz3 := hb3.size
  clear k0 hb3
  have hsl : BytesAt w3 (.slice (some ⟨b, off, none⟩) r.length 0) r := by have := behind_end HBY3.out (k := 1) (by simp) hc1; simpa using this
  have HO := Lib.hid (open_any (.slice (some ⟨b, off, none⟩) r.length 0) r w3 hl hsl)
  have HCB := Lib.hid (show w.heap.size < w1.heap.size from hzl)
  clear k3 hsl
  go_wp2_with fail
  refine HO.out.mono ?_
  rintro e w4 ⟨g, rfl, hg, hb4, hr4⟩
  have hgl := hr4.lt
  have hb5 : Below w4.heap.size w4 (w4.alloc (.cells #[.pointer (some ⟨g, 0, none⟩)] 70)) := (Below.refl _ _).alloc (Nat.le_refl _) _
  have HX5 := Lib.hid (Boxed.new w4 70 (.pointer (some ⟨g, 0, none⟩)))
  have HR5 := Lib.hid (hr4.keep hb5)
  have HC5 := Lib.hid ((HCC3.out.keep hb4).keep hb5)
  have HZ5 := Lib.hid ((HZ3.out.keep hb4).keep hb5)
  have hcb : w1.heap.size < w3.heap.size := HCC3.out.lt
  have HB5 := Lib.hid (HB3.out.trans ((hb4.trans (hb5.mono hb4.size)).mono HB3.out.size))
  have hz5 := World.size_alloc w4 (.cells #[.pointer (some ⟨g, 0, none⟩)] 70)
  generalize hw5 : w4.alloc (.cells #[.pointer (some ⟨g, 0, none⟩)] 70) = w5 at *
  have HST := Lib.hid (show Stays w5.heap.size (DecJ w1.heap.size g w4.heap.size fs (opC x) r) from fun i W W' hb ⟨a1, a2, a3⟩ =>
    ⟨(hb.block _ (by omega)).trans a1, a2.stay hb (by omega), (hb.block _ (by omega)).trans a3⟩)
  have HJ0 := Lib.hid (show DecJ w1.heap.size g w4.heap.size fs (opC x) r 0 w5 from ⟨HC5.out, HR5.out, HX5.out⟩)
  have hk5 : w5.cell? ⟨w1.heap.size, 0, none⟩ = some (.int .i64 x) := by rw [HC5.out.cell (j := 0) (by decide)]; rfl
  have HFW := Lib.hid (firstWrong_any 34 _ eg3 eg2 w1.heap.size x fs hfs (rdE fs (opC x) r) (fun k => k = w1.heap.size ∨ k = g) _ w5 hk5 (by omega) (fun k h => by rcases h with rfl | rfl <;> omega) HST.out HJ0.out (dec_step w1.heap.size g w4.heap.size fs hfs (opC x) r (by omega) (by omega) (by omega)))
  have hdt : decodeT (x :: r) = if firstK (rdE fs (opC x) r) fs.length ≠ [] then (zeroC, (3, cmdS, (x : Int)) :: firstK (rdE fs (opC x) r) fs.length)
      else if 0 < (rdT fs (opC x) r fs.length).2.1.length then (zeroC, [(3, cmdS, (x : Int)), (4, fieldS, (fs.length : Int))])
      else ((rdT fs (opC x) r fs.length).1, []) := by unfold decodeT; simp only; rw [hfs]
  have HOP := Lib.hid (rdT_op (fieldsT_lt hfs) (opC x) r fs.length (Nat.le_refl _))
  have hzn : w.heap.size ≠ w1.heap.size := by have := HCB.out; omega
  have hzg : w.heap.size ≠ g := by have := HCB.out; omega
  have HW5 := Lib.hid hw5
  clear hb4 hb5 hr4 hw5 hk5 hfs
  go_wp2_with fail
  rw [HW5.out]
  refine HFW.out.mono ?_
  rintro e w6 ⟨v, rfl, he, ha, hc6, hr6, hx6⟩
  generalize rdT fs (opC x) r fs.length = R at *
  obtain ⟨d, rest, er⟩ := R
  simp only at hc6 hr6 hdt
  have HZ6 := Lib.hid (HZ5.out.apart ha (fun h => h.elim hzn hzg))
  have HB6 := Lib.hid (HB5.out.trans (ha.below HB5.out.size (fun k hk h => by have := HCB.out; rcases h with rfl | rfl <;> omega)))
  have hsz6 := ha.size
  have hev := he.cases
  have HE6 := Lib.hid he
  have HC6 := Lib.hid hc6
  have hop6 : w6.cell? ⟨w1.heap.size, 0, none⟩ = some (.int .i64 x) := by
    rw [hc6.cell (j := 0) (by decide)]
    have : d 0 = (x : Int) := HOP.out
    rw [this]
  have hlo : w.heap.size < w5.heap.size := by have := HCB.out; omega
  generalize firstK (rdE fs (opC x) r) fs.length = ks at *
  clear he ha
  rcases hev with ⟨rfl, hk⟩ | ⟨b', rfl, hk⟩
  · have hn := fun W => run_eql_nil_nil (P := Tryd.prog) W 27 (by kernel_rfl)
    have hn2 := fun W => run_neq_nil_nil (P := Tryd.prog) W 27 (by kernel_rfl)
    have hn3 := fun W x => run_neq_held_nil (P := Tryd.prog) W 27 80 x (by kernel_rfl)
    rw [if_neg (by simp [hk])] at hdt
    have HL := Lib.hid (left_any g rest er w6 hr6)
    have k6 := hx6.cell
    clear hr6 hx6 hk
    by_cases hrest : 0 < rest.length
    · rw [if_pos hrest] at hdt
      have HDT := Lib.hid hdt
      have hpz : (0 : Int) < (rest.length : Int) := by omega
      generalize rest.length = m at *
      clear hdt hrest
      go_wp2_with (go_at_call 37; refine HL.out.mono ?_; rintro e w' ⟨rfl, rfl⟩)
      refine (new_any 4 fieldS (fs.length : Int) w6).mono ?_
      rintro e w7 ⟨u7, rfl, he7, hb7⟩
      rw [if_neg (by decide)] at he7
      have hev7 := he7.cases
      have HZ7 := Lib.hid (HZ6.out.keep hb7)
      have HB7 := Lib.hid (HB6.out.trans (hb7.mono HB6.out.size))
      have hop7 : w7.cell? ⟨w1.heap.size, 0, none⟩ = some (.int .i64 x) := by rw [hb7.cell (p := ⟨w1.heap.size, 0, none⟩) (HC6.out.lt)]; exact hop6
      have hsz7 := hb7.size
      rcases hev7 with ⟨_, h⟩ | ⟨b7, rfl, _⟩
      · cases h
      have HE7 := Lib.hid he7
      clear he7 hb7 hop6 k6
      go_wp2_with fail
      refine (turnE_any b7 3 _ cmdS (x : Int) w6.heap.size w7 hsz7 (by decide) HE7.out).mono ?_
      rintro e w8 ⟨u8, rfl, he8, hb8, b8, rfl⟩
      have hz8 := HZ7.out.keep hb8
      have HD := Lib.hid (dec_end hz8 he8 (by omega) (HB7.out.trans (hb8.mono HB7.out.size)) (Nat.le_refl _) zeroC)
      obtain ⟨z0, z1, z2, z3, z4, z5, z6, z7⟩ := hz8.eight
      have fz := hz8.frozen
      clear he8 hb8 hz8 hop7
      dsimp only
      repeat go_step
      refine bodyPost_ret (v := .tuple #[.agg (cmdA zeroC), _]) (results_row_tmp rfl _ _ w.heap.size _ _ _ _ rfl HD.out.1 Tryd.underlying23 rfl (Tryd.sizeCmd _) _ rfl) rfl ?_
      exact ⟨_, by rw [HDT.out], by rw [HDT.out]; exact HD.out.2.1, HD.out.2.2⟩
    · rw [if_neg hrest] at hdt
      have HDT := Lib.hid hdt
      have hpz : ¬ (0 : Int) < (rest.length : Int) := by omega
      generalize rest.length = m at *
      clear hdt hrest
      have HD := Lib.hid (dec_end HZ6.out HE6.out hlo HB6.out (Nat.le_refl _) d)
      obtain ⟨z0, z1, z2, z3, z4, z5, z6, z7⟩ := HZ6.out.eight
      obtain ⟨e0, e1, e2, e3, e4, e5, e6, e7⟩ := HC6.out.eight
      have fz := HZ6.out.frozen
      clear hop6
      go_upto_region 13 with (go_at_call 37; refine HL.out.mono ?_; rintro e w' ⟨rfl, rfl⟩)
      repeat go_step
      refine bodyPost_ret (v := .tuple #[.agg (cmdA d), _]) (results_row_tmp rfl _ _ w.heap.size _ _ _ _ rfl HD.out.1 Tryd.underlying23 rfl (Tryd.sizeCmd _) _ rfl) rfl ?_
      refine ⟨.nilIface, by rw [HDT.out]; rfl, ?_, HD.out.2.2⟩
      rw [HDT.out]
      exact ErrAt.nil _ _
  · have hn := fun W x => run_neq_held_nil (P := Tryd.prog) W 27 80 x (by kernel_rfl)
    have hn1 := fun W x => run_eql_held_nil (P := Tryd.prog) W 27 80 x (by kernel_rfl)
    rw [if_pos hk] at hdt
    have HDT := Lib.hid hdt
    clear hk hdt hr6 hx6 hc6
    go_wp2_with fail
    refine (turnE_any b' 3 ks cmdS (x : Int) w5.heap.size w6 hsz6 (by decide) HE6.out).mono ?_
    rintro e w8 ⟨u8, rfl, he8, hb8, b8, rfl⟩
    have hz8 := HZ6.out.keep hb8
    have HD := Lib.hid (dec_end hz8 he8 (by omega) (HB6.out.trans (hb8.mono HB6.out.size)) (Nat.le_refl _) zeroC)
    obtain ⟨z0, z1, z2, z3, z4, z5, z6, z7⟩ := hz8.eight
    have fz := hz8.frozen
    clear he8 hb8 hz8 hop6
    dsimp only
    repeat go_step
    refine bodyPost_ret (v := .tuple #[.agg (cmdA zeroC), _]) (results_row_tmp rfl _ _ w.heap.size _ _ _ _ rfl HD.out.1 Tryd.underlying23 rfl (Tryd.sizeCmd _) _ rfl) rfl ?_
    exact ⟨_, by rw [HDT.out], by rw [HDT.out]; exact HD.out.2.1, HD.out.2.2⟩

set_option maxRecDepth 100000 in
set_option maxHeartbeats 2000000 in
theorem decode_more (b off c x : Nat) (r : List Nat) (w : World) (hv : BytesAt w (.slice (some ⟨b, off, none⟩) (r.length + 1) c) (x :: r)) (eg1 : EG 27) (eg2 : EG 41) (eg3 : EG 34) (fs : List Nat) (hfs : fieldsT (x : Int) = some fs) (hl : r.length ≤ 100000) (hc1 : ¬ c = 1) :
    Calls Tryd.prog 16 #[.slice (some ⟨b, off, none⟩) (r.length + 1) c] w (DecP (x :: r) w) := by
  have hb : Below w.heap.size w (w.alloc (.cells zero8 23)) := (Below.refl _ _).alloc (Nat.le_refl _) _
  have hz : CmdAt (w.alloc (.cells zero8 23)) w.heap.size zeroC := World.alloc_heap_new _ _
  have hx256 : x < 256 := hv.small (j := 0) rfl
  have HV := Lib.hid hv
  have HBY := Lib.hid (hv.keep hb)
  obtain ⟨A, c', e', h2, h3, h4, h5, h6⟩ := HBY.out
  injection e' with e1 e2 e3
  subst e1 e3
  obtain ⟨b', off', e'', hlt, hcell⟩ := h6 (by simp)
  injection e'' with e4
  injection e4 with e5 e6 _
  subst e5 e6
  have c0 := hcell 0 x rfl
  rw [Nat.add_zero] at c0
  have hlc : r.length + 1 ≤ c := by simpa using h2
  have hbl : b < (w.alloc (.cells zero8 23)).heap.size := hlt
  clear h6 hcell h4 h5 h2 h3 hlt e2
  clear hv
  go_enter Tryd.func16, Tryd.ntmps16
  go_upto_region 1 with fail
  generalize w.alloc (.cells zero8 23) = w1 at *
  have HZ := Lib.hid hz
  have HB := Lib.hid hb
  have hzl := hz.lt
  clear hz hb
  go_upto_region 4 with fail
  have hcc : CmdAt (w1.alloc (.cells #[.int .i64 x, .int .i64 0, .int .i64 0, .int .i64 0, .int .i64 0, .int .i64 0, .int .i64 0, .int .i64 0] 23)) w1.heap.size (opC x) := World.alloc_heap_new _ _
  have hb1 : Below w1.heap.size w1 (w1.alloc (.cells #[.int .i64 x, .int .i64 0, .int .i64 0, .int .i64 0, .int .i64 0, .int .i64 0, .int .i64 0, .int .i64 0] 23)) := (Below.refl _ _).alloc (Nat.le_refl _) _
  have HZ1 := Lib.hid (HZ.out.keep hb1)
  have HB1 := Lib.hid (HB.out.trans (hb1.mono HB.out.size))
  have HBY1 := Lib.hid (HBY.out.keep hb1)
  have hzz := World.size_alloc w1 (.cells #[.int .i64 x, .int .i64 0, .int .i64 0, .int .i64 0, .int .i64 0, .int .i64 0, .int .i64 0, .int .i64 0] 23)
  generalize w1.alloc (.cells #[.int .i64 x, .int .i64 0, .int .i64 0, .int .i64 0, .int .i64 0, .int .i64 0, .int .i64 0, .int .i64 0] 23) = w2 at *
  have HCC := Lib.hid hcc
  have k0 := hcc.cell (j := 0) (by decide)
  have hk0 : opC (x : Int) 0 = (x : Int) := rfl
  rw [hk0] at k0
  have HF := Lib.hid (fields_any eg1 (x : Int) w2)
  have hfn : fieldsN (x : Int) = (fs.length : Int) := by unfold fieldsN; rw [hfs]
  rw [hfn] at HF
  clear c0 hcc hb1 hfn
  go_wp2_with fail
  refine HF.out.mono ?_
  rintro e w3 ⟨rfl, hb3⟩
  have HZ3 := Lib.hid (HZ1.out.keep hb3)
  have HB3 := Lib.hid (HB1.out.trans (hb3.mono HB1.out.size))
  have HCC3 := Lib.hid (HCC.out.keep hb3)
  have HBY3 := Lib.hid (HBY1.out.keep hb3)
  have k3 := HCC3.out.cell (j := 0) (by decide)
  rw [hk0] at k3
  have hsz3 := hb3.size
  clear k0 hb3
  have hsl : BytesAt w3 (.slice (some ⟨b, off + 1, none⟩) r.length (c - 1)) r := by have := behind_more HBY3.out (k := 1) (by simp); simpa [Addr.add] using this
  have HO := Lib.hid (open_any (.slice (some ⟨b, off + 1, none⟩) r.length (c - 1)) r w3 hl hsl)
  have HCB := Lib.hid (show w.heap.size < w1.heap.size from hzl)
  clear k3 hsl
  go_wp2_with fail
  refine HO.out.mono ?_
  rintro e w4 ⟨g, rfl, hg, hb4, hr4⟩
  have hgl := hr4.lt
  have hb5 : Below w4.heap.size w4 (w4.alloc (.cells #[.pointer (some ⟨g, 0, none⟩)] 70)) := (Below.refl _ _).alloc (Nat.le_refl _) _
  have HX5 := Lib.hid (Boxed.new w4 70 (.pointer (some ⟨g, 0, none⟩)))
  have HR5 := Lib.hid (hr4.keep hb5)
  have HC5 := Lib.hid ((HCC3.out.keep hb4).keep hb5)
  have HZ5 := Lib.hid ((HZ3.out.keep hb4).keep hb5)
  have hcb : w1.heap.size < w3.heap.size := HCC3.out.lt
  have HB5 := Lib.hid (HB3.out.trans ((hb4.trans (hb5.mono hb4.size)).mono HB3.out.size))
  have hz5 := World.size_alloc w4 (.cells #[.pointer (some ⟨g, 0, none⟩)] 70)
  generalize hw5 : w4.alloc (.cells #[.pointer (some ⟨g, 0, none⟩)] 70) = w5 at *
  have HST := Lib.hid (show Stays w5.heap.size (DecJ w1.heap.size g w4.heap.size fs (opC x) r) from fun i W W' hb ⟨a1, a2, a3⟩ =>
    ⟨(hb.block _ (by omega)).trans a1, a2.stay hb (by omega), (hb.block _ (by omega)).trans a3⟩)
  have HJ0 := Lib.hid (show DecJ w1.heap.size g w4.heap.size fs (opC x) r 0 w5 from ⟨HC5.out, HR5.out, HX5.out⟩)
  have hk5 : w5.cell? ⟨w1.heap.size, 0, none⟩ = some (.int .i64 x) := by rw [HC5.out.cell (j := 0) (by decide)]; rfl
  have HFW := Lib.hid (firstWrong_any 34 _ eg3 eg2 w1.heap.size x fs hfs (rdE fs (opC x) r) (fun k => k = w1.heap.size ∨ k = g) _ w5 hk5 (by omega) (fun k h => by rcases h with rfl | rfl <;> omega) HST.out HJ0.out (dec_step w1.heap.size g w4.heap.size fs hfs (opC x) r (by omega) (by omega) (by omega)))
  have hdt : decodeT (x :: r) = if firstK (rdE fs (opC x) r) fs.length ≠ [] then (zeroC, (3, cmdS, (x : Int)) :: firstK (rdE fs (opC x) r) fs.length)
      else if 0 < (rdT fs (opC x) r fs.length).2.1.length then (zeroC, [(3, cmdS, (x : Int)), (4, fieldS, (fs.length : Int))])
      else ((rdT fs (opC x) r fs.length).1, []) := by unfold decodeT; simp only; rw [hfs]
  have HOP := Lib.hid (rdT_op (fieldsT_lt hfs) (opC x) r fs.length (Nat.le_refl _))
  have hzn : w.heap.size ≠ w1.heap.size := by have := HCB.out; omega
  have hzg : w.heap.size ≠ g := by have := HCB.out; omega
  have HW5 := Lib.hid hw5
  clear hb4 hb5 hr4 hw5 hk5 hfs
  go_wp2_with fail
  rw [HW5.out]
  refine HFW.out.mono ?_
  rintro e w6 ⟨v, rfl, he, ha, hc6, hr6, hx6⟩
  generalize rdT fs (opC x) r fs.length = R at *
  obtain ⟨d, rest, er⟩ := R
  simp only at hc6 hr6 hdt
  have HZ6 := Lib.hid (HZ5.out.apart ha (fun h => h.elim hzn hzg))
  have HB6 := Lib.hid (HB5.out.trans (ha.below HB5.out.size (fun k hk h => by have := HCB.out; rcases h with rfl | rfl <;> omega)))
  have hsz6 := ha.size
  have hev := he.cases
  have HE6 := Lib.hid he
  have HC6 := Lib.hid hc6
  have hop6 : w6.cell? ⟨w1.heap.size, 0, none⟩ = some (.int .i64 x) := by
    rw [hc6.cell (j := 0) (by decide)]
    have : d 0 = (x : Int) := HOP.out
    rw [this]
  have hlo : w.heap.size < w5.heap.size := by have := HCB.out; omega
  generalize firstK (rdE fs (opC x) r) fs.length = ks at *
  clear he ha
  rcases hev with ⟨rfl, hk⟩ | ⟨b', rfl, hk⟩
  · have hn := fun W => run_eql_nil_nil (P := Tryd.prog) W 27 (by kernel_rfl)
    have hn2 := fun W => run_neq_nil_nil (P := Tryd.prog) W 27 (by kernel_rfl)
    have hn3 := fun W x => run_neq_held_nil (P := Tryd.prog) W 27 80 x (by kernel_rfl)
    rw [if_neg (by simp [hk])] at hdt
    have HL := Lib.hid (left_any g rest er w6 hr6)
    have k6 := hx6.cell
    clear hr6 hx6 hk
    by_cases hrest : 0 < rest.length
    · rw [if_pos hrest] at hdt
      have HDT := Lib.hid hdt
      have hpz : (0 : Int) < (rest.length : Int) := by omega
      generalize rest.length = m at *
      clear hdt hrest
      go_wp2_with (go_at_call 37; refine HL.out.mono ?_; rintro e w' ⟨rfl, rfl⟩)
      refine (new_any 4 fieldS (fs.length : Int) w6).mono ?_
      rintro e w7 ⟨u7, rfl, he7, hb7⟩
      rw [if_neg (by decide)] at he7
      have hev7 := he7.cases
      have HZ7 := Lib.hid (HZ6.out.keep hb7)
      have HB7 := Lib.hid (HB6.out.trans (hb7.mono HB6.out.size))
      have hop7 : w7.cell? ⟨w1.heap.size, 0, none⟩ = some (.int .i64 x) := by rw [hb7.cell (p := ⟨w1.heap.size, 0, none⟩) (HC6.out.lt)]; exact hop6
      have hsz7 := hb7.size
      rcases hev7 with ⟨_, h⟩ | ⟨b7, rfl, _⟩
      · cases h
      have HE7 := Lib.hid he7
      clear he7 hb7 hop6 k6
      go_wp2_with fail
      refine (turnE_any b7 3 _ cmdS (x : Int) w6.heap.size w7 hsz7 (by decide) HE7.out).mono ?_
      rintro e w8 ⟨u8, rfl, he8, hb8, b8, rfl⟩
      have hz8 := HZ7.out.keep hb8
      have HD := Lib.hid (dec_end hz8 he8 (by omega) (HB7.out.trans (hb8.mono HB7.out.size)) (Nat.le_refl _) zeroC)
      obtain ⟨z0, z1, z2, z3, z4, z5, z6, z7⟩ := hz8.eight
      have fz := hz8.frozen
      clear he8 hb8 hz8 hop7
      dsimp only
      repeat go_step
      refine bodyPost_ret (v := .tuple #[.agg (cmdA zeroC), _]) (results_row_tmp rfl _ _ w.heap.size _ _ _ _ rfl HD.out.1 Tryd.underlying23 rfl (Tryd.sizeCmd _) _ rfl) rfl ?_
      exact ⟨_, by rw [HDT.out], by rw [HDT.out]; exact HD.out.2.1, HD.out.2.2⟩
    · rw [if_neg hrest] at hdt
      have HDT := Lib.hid hdt
      have hpz : ¬ (0 : Int) < (rest.length : Int) := by omega
      generalize rest.length = m at *
      clear hdt hrest
      have HD := Lib.hid (dec_end HZ6.out HE6.out hlo HB6.out (Nat.le_refl _) d)
      obtain ⟨z0, z1, z2, z3, z4, z5, z6, z7⟩ := HZ6.out.eight
      obtain ⟨e0, e1, e2, e3, e4, e5, e6, e7⟩ := HC6.out.eight
      have fz := HZ6.out.frozen
      clear hop6
      go_upto_region 13 with (go_at_call 37; refine HL.out.mono ?_; rintro e w' ⟨rfl, rfl⟩)
      repeat go_step
      refine bodyPost_ret (v := .tuple #[.agg (cmdA d), _]) (results_row_tmp rfl _ _ w.heap.size _ _ _ _ rfl HD.out.1 Tryd.underlying23 rfl (Tryd.sizeCmd _) _ rfl) rfl ?_
      refine ⟨.nilIface, by rw [HDT.out]; rfl, ?_, HD.out.2.2⟩
      rw [HDT.out]
      exact ErrAt.nil _ _
  · have hn := fun W x => run_neq_held_nil (P := Tryd.prog) W 27 80 x (by kernel_rfl)
    have hn1 := fun W x => run_eql_held_nil (P := Tryd.prog) W 27 80 x (by kernel_rfl)
    rw [if_pos hk] at hdt
    have HDT := Lib.hid hdt
    clear hk hdt hr6 hx6 hc6
    go_wp2_with fail
    refine (turnE_any b' 3 ks cmdS (x : Int) w5.heap.size w6 hsz6 (by decide) HE6.out).mono ?_
    rintro e w8 ⟨u8, rfl, he8, hb8, b8, rfl⟩
    have hz8 := HZ6.out.keep hb8
    have HD := Lib.hid (dec_end hz8 he8 (by omega) (HB6.out.trans (hb8.mono HB6.out.size)) (Nat.le_refl _) zeroC)
    obtain ⟨z0, z1, z2, z3, z4, z5, z6, z7⟩ := hz8.eight
    have fz := hz8.frozen
    clear he8 hb8 hz8 hop6
    dsimp only
    repeat go_step
    refine bodyPost_ret (v := .tuple #[.agg (cmdA zeroC), _]) (results_row_tmp rfl _ _ w.heap.size _ _ _ _ rfl HD.out.1 Tryd.underlying23 rfl (Tryd.sizeCmd _) _ rfl) rfl ?_
    exact ⟨_, by rw [HDT.out], by rw [HDT.out]; exact HD.out.2.1, HD.out.2.2⟩

theorem decode_any (eg1 : EG 27) (eg2 : EG 41) (eg3 : EG 34) (v : Value) (bs : List Nat) (w : World) (hv : BytesAt w v bs) (hl : bs.length ≤ 100000) :
    Calls Tryd.prog 16 #[v] w (DecP bs w) := by
  have hv0 := hv
  obtain ⟨A, c, rfl, h2, h3, h4, h5, h6⟩ := hv
  cases bs with
  | nil => exact decode_nil A c w
  | cons x r =>
    obtain ⟨b, off, rfl, _⟩ := h6 (by simp)
    cases hfs : fieldsT (x : Int) with
    | none => exact decode_none b off c x r w hv0 eg1 hfs
    | some fs =>
      have hl' : r.length ≤ 100000 := by simp at hl; omega
      by_cases hc1 : c = 1
      · exact decode_end b off c x r w hv0 eg1 eg2 eg3 fs hfs hl' hc1
      · exact decode_more b off c x r w hv0 eg1 eg2 eg3 fs hfs hl' hc1
end Go.Proofs.YtnddojngbolbfaaDoor
