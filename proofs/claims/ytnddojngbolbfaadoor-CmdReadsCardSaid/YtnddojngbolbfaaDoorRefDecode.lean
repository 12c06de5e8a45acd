/-
  The document's Decode.
  Conditions: no more than 100000 bytes.
-/
import Derived.Test.YtnddojngbolbfaaDoorRefCheck
import Derived.Test.YtnddojngbolbfaaDoorRefRead
import Derived.Test.YtnddojngbolbfaaDoorDecMath
set_option linter.unusedVariables false
namespace Go.Proofs.YtnddojngbolbfaaDoor
open Go.RowKit

/-- What the document's Decode answers. -/
def RefDecP (bs : List Nat) (w : World) (e : Ending) (w' : World) : Prop :=
  ∃ u, e = .returned (.tuple #[.agg (cmdA (decodeT bs).1), u]) ∧ KeysAt w' u (decodeT bs).2 ∧ Below w.heap.size w w'

theorem arr_same (cs : Array Value) (j : Nat) (h : j < cs.size) : cs.setIfInBounds j cs[j] = cs := by
  apply Array.ext_getElem?
  intro i
  rw [Array.getElem?_setIfInBounds]
  by_cases hi : j = i
  · subst hi
    simp [h]
  · simp [hi]
theorem set_same {W : World} {b j : Nat} {v : Value} {cs : Array Value} {T : TypeId} {fr : Nat × Nat} (h : W.heap[b]? = some (.cells cs T fr)) (hj : cs[j]? = some v) : W.setCell ⟨b, j, none⟩ v = W := by
  have e : (W.heap.modify b fun x => match x with | .cells c elem frozen => .cells (c.setIfInBounds j v) elem frozen | o => o) = W.heap := by
    apply Array.ext_getElem?
    intro i
    rw [Array.getElem?_modify]
    by_cases hi : b = i
    · subst hi
      rw [if_pos rfl, h]
      obtain ⟨hlt, rfl⟩ := Array.getElem?_eq_some_iff.1 hj
      simp [arr_same cs j hlt]
    · rw [if_neg hi]
  show World.mk (W.heap.modify b fun x => match x with | .cells c elem frozen => .cells (c.setIfInBounds j v) elem frozen | o => o) W.tape W.drawn W.os W.output = W
  rw [e]
/-- Zeros over zeros. -/
theorem zero_store {W : World} {b : Nat} (h : CmdAt W b zeroC) :
    ((((((((W.setCell ⟨b, 0, none⟩ (.int .i64 0)).setCell ⟨b, 1, none⟩ (.int .i64 0)).setCell ⟨b, 2, none⟩ (.int .i64 0)).setCell ⟨b, 3, none⟩ (.int .i64 0)).setCell ⟨b, 4, none⟩ (.int .i64 0)).setCell ⟨b, 5, none⟩ (.int .i64 0)).setCell ⟨b, 6, none⟩ (.int .i64 0)).setCell ⟨b, 7, none⟩ (.int .i64 0)) = W := by
  rw [set_same (v := .int .i64 0) h (j := 0) rfl, set_same (v := .int .i64 0) h (j := 1) rfl, set_same (v := .int .i64 0) h (j := 2) rfl, set_same (v := .int .i64 0) h (j := 3) rfl, set_same (v := .int .i64 0) h (j := 4) rfl, set_same (v := .int .i64 0) h (j := 5) rfl, set_same (v := .int .i64 0) h (j := 6) rfl, set_same (v := .int .i64 0) h (j := 7) rfl]

set_option maxRecDepth 100000 in
set_option maxHeartbeats 4000000 in
theorem refDecode_nil (A : Option Addr) (c : Nat) (w : World) : Calls Tryd.prog 17 #[.slice A 0 c] w (RefDecP [] w) := by
  have hb : Below w.heap.size w (w.alloc (.cells #[.int .i64 0, .int .i64 0, .int .i64 0, .int .i64 0, .int .i64 0, .int .i64 0, .int .i64 0, .int .i64 0] 23)) := (Below.refl _ _).alloc (Nat.le_refl _) _
  have hz : CmdAt (w.alloc (.cells #[.int .i64 0, .int .i64 0, .int .i64 0, .int .i64 0, .int .i64 0, .int .i64 0, .int .i64 0, .int .i64 0] 23)) w.heap.size zeroC := World.alloc_heap_new _ _
  go_enter Tryd.func17, Tryd.ntmps17
  go_upto_region 1 with fail
  generalize w.alloc (.cells #[.int .i64 0, .int .i64 0, .int .i64 0, .int .i64 0, .int .i64 0, .int .i64 0, .int .i64 0, .int .i64 0] 23) = w1 at *
  have HZ := Lib.hid hz
  have HB := Lib.hid hb
  have hb2 : Below w1.heap.size w1 (w1.alloc (.cells #[.int .i64 3, .string cmdS, .int .i64 0] 53)) := (Below.refl _ _).alloc (Nat.le_refl _) _
  have hz2 := hz.keep hb2
  have HKS := Lib.hid (keys_one (new_at w1 (.cells #[.int .i64 3, .string cmdS, .int .i64 0] 53) rfl))
  have HBF := Lib.hid (HB.out.trans (hb2.mono HB.out.size))
  obtain ⟨z0, z1, z2, z3, z4, z5, z6, z7⟩ := hz.eight
  have fz := hz.frozen
  have hwlt := hz.lt
  have HZ2 := Lib.hid hz2
  clear hz hb hb2 hz2
  go_upto_region 2 with fail
  repeat go_step
  rw [zero_store HZ.out]
  refine bodyPost_ret (v := .tuple #[.agg (cmdA zeroC), _]) (results_row_tmp2 rfl _ _ w.heap.size _ _ _ _ rfl HZ2.out Tryd.underlying23 rfl (Tryd.sizeCmd _) _ rfl) rfl ?_
  exact ⟨_, rfl, HKS.out, HBF.out⟩

set_option maxRecDepth 100000 in
set_option maxHeartbeats 4000000 in
theorem refDecode_none (b off c x : Nat) (r : List Nat) (w : World) (hv : BytesAt w (.slice (some ⟨b, off, none⟩) (r.length + 1) c) (x :: r)) (hfs : fieldsT (x : Int) = none) :
    Calls Tryd.prog 17 #[.slice (some ⟨b, off, none⟩) (r.length + 1) c] w (RefDecP (x :: r) w) := by
  have hb : Below w.heap.size w (w.alloc (.cells #[.int .i64 0, .int .i64 0, .int .i64 0, .int .i64 0, .int .i64 0, .int .i64 0, .int .i64 0, .int .i64 0] 23)) := (Below.refl _ _).alloc (Nat.le_refl _) _
  have hz : CmdAt (w.alloc (.cells #[.int .i64 0, .int .i64 0, .int .i64 0, .int .i64 0, .int .i64 0, .int .i64 0, .int .i64 0, .int .i64 0] 23)) w.heap.size zeroC := World.alloc_heap_new _ _
  have hx256 : x < 256 := hv.small (j := 0) rfl
  have HBY := Lib.hid (hv.keep hb)
  obtain ⟨A, c', e', h2, h3, h4, h5, h6⟩ := HBY.out
  injection e' with e1 e2 e3
  subst e1 e3
  obtain ⟨b', off', e'', hlt, hcell⟩ := h6 (by simp)
  injection e'' with e4
  injection e4 with e5 e6 _
  subst e5 e6
  have c0 := hcell 0 x rfl
  rw [Nat.add_zero] at c0
  have hlc : r.length + 1 ≤ c := by simpa using h2
  have hbl : b < (w.alloc (.cells #[.int .i64 0, .int .i64 0, .int .i64 0, .int .i64 0, .int .i64 0, .int .i64 0, .int .i64 0, .int .i64 0] 23)).heap.size := hlt
  have hs1 : (w.alloc (.cells #[.int .i64 0, .int .i64 0, .int .i64 0, .int .i64 0, .int .i64 0, .int .i64 0, .int .i64 0, .int .i64 0] 23)).heap.size = w.heap.size + 1 := World.size_alloc _ _
  clear h6 hcell h4 h5 h2 h3 hlt e2 hv
  go_enter Tryd.func17, Tryd.ntmps17
  go_upto_region 1 with fail
  generalize w.alloc (.cells #[.int .i64 0, .int .i64 0, .int .i64 0, .int .i64 0, .int .i64 0, .int .i64 0, .int .i64 0, .int .i64 0] 23) = w1 at *
  have HZ := Lib.hid hz
  have HB := Lib.hid hb
  clear hz hb
  go_upto_region 4 with fail
  have hcc : CmdAt (w1.alloc (.cells #[.int .i64 x, .int .i64 0, .int .i64 0, .int .i64 0, .int .i64 0, .int .i64 0, .int .i64 0, .int .i64 0] 23)) (w.heap.size + 1) (opC x) := new_at w1 (.cells #[.int .i64 x, .int .i64 0, .int .i64 0, .int .i64 0, .int .i64 0, .int .i64 0, .int .i64 0, .int .i64 0] 23) hs1
  have hb1 : Below w1.heap.size w1 (w1.alloc (.cells #[.int .i64 x, .int .i64 0, .int .i64 0, .int .i64 0, .int .i64 0, .int .i64 0, .int .i64 0, .int .i64 0] 23)) := (Below.refl _ _).alloc (Nat.le_refl _) _
  have HZR := Lib.hid (HZ.out.keep hb1)
  have HBWR := Lib.hid (HB.out.trans (hb1.mono HB.out.size))
  have HBY1 := Lib.hid (HBY.out.keep hb1)
  have hs2 := World.size_alloc w1 (.cells #[.int .i64 x, .int .i64 0, .int .i64 0, .int .i64 0, .int .i64 0, .int .i64 0, .int .i64 0, .int .i64 0] 23)
  rw [hs1] at *
  generalize w1.alloc (.cells #[.int .i64 x, .int .i64 0, .int .i64 0, .int .i64 0, .int .i64 0, .int .i64 0, .int .i64 0, .int .i64 0] 23) = wr at *
  have HCC := Lib.hid hcc
  have k0 := hcc.cell (j := 0) (by decide)
  have hk0 : opC (x : Int) 0 = (x : Int) := rfl
  rw [hk0] at k0
  clear c0 hcc hb1 hs2 hs1
  have HDT := Lib.hid (show decodeT (x :: r) = (zeroC, [(3, cmdS, (x : Int))]) by unfold decodeT; simp only; rw [hfs])
  have HN := Lib.hid (names_none (x : Int) wr hfs)
  have HCE := Lib.hid (fun W (h : Below wr.heap.size wr W) => (HCC.out.keep h).cell (j := 0) (by decide))
  have hks := keys_one (new_at wr (.cells #[.int .i64 3, .string cmdS, .int .i64 x] 53) rfl)
  have HKS := Lib.hid (show KeysAt (wr.alloc (.cells #[.int .i64 3, .string cmdS, .int .i64 x] 53)).drew _ _ from hks)
  clear hfs hks
  go_wp2_with fail
  refine HN.out.mono ?_
  rintro e w2 ⟨rfl, rfl⟩
  go_wp2_with fail
  have HDR := Lib.hid (show Below wr.heap.size wr wr.drew from below_drewN (Below.refl _ _) 1)
  have HDA := Lib.hid (show Below wr.heap.size wr (wr.alloc (.cells #[.int .i64 3, .string cmdS, .int .i64 x] 53)).drew from ((Below.refl _ wr).alloc (Nat.le_refl _) _).drew)
  have HBF := Lib.hid (HBWR.out.trans (HDA.out.mono HBWR.out.size))
  refine wp_region_N (S1 := fun W => Below wr.heap.size wr W) (S2 := fun _ => True) (N := fun _ => false) (by kernel_rfl) ?_
  change wpAnyN _ _ _ _ _ _ _ 7 (Array.replicate 7 false) _ _
  refine wpAnyN_take false (i := 0) (v := .agg #[.int .i64 0, .int .i64 0, .int .i64 0, .int .i64 0, .int .i64 0, .int .i64 0, .int .i64 0, .int .i64 0]) rfl (by kernel_rfl) (by kernel_rfl) (by kernel_rfl) (fun _ _ _ h => h) (.inl ⟨by kernel_rfl, fun W hS => ?_⟩) ⟨HDR.out, fun h => by cases h⟩ ?_
  · simp [execOp, Act.eval, go_sem]
  refine wpAnyN_take false (i := 1) (v := .pointer (some ⟨w.heap.size + 1, 0, none⟩)) rfl (by kernel_rfl) (by kernel_rfl) (by kernel_rfl) (fun _ _ _ h => h) (.inl ⟨by kernel_rfl, fun W hS => ?_⟩) ⟨HDR.out, fun h => by cases h⟩ ?_
  · simp [execOp, Act.eval, Act.put, go_sem]
  refine wpAnyN_take false (i := 2) (v := .int .i64 x) rfl (by kernel_rfl) (by kernel_rfl) (by kernel_rfl) (fun _ _ _ h => h) (.inl ⟨by kernel_rfl, fun W hS => ?_⟩) ⟨HDR.out, fun h => by cases h⟩ ?_
  · simp [execOp, Act.eval, Act.put, go_sem, show W.cell? ⟨w.heap.size + 1, 0, none⟩ = some (.int .i64 x) from HCE.out W hS.1]
  refine wpAnyN_take false (i := 3) (v := .agg #[.int .i64 3, .string cmdS, .int .i64 x]) rfl (by kernel_rfl) (by kernel_rfl) (by kernel_rfl) (fun _ _ _ h => h) (.inl ⟨by kernel_rfl, fun W hS => ?_⟩) ⟨HDR.out, fun h => by cases h⟩ ?_
  · simp [execOp, Act.eval, Act.put, go_sem, cmdS]
  obtain ⟨z0, z1, z2, z3, z4, z5, z6, z7⟩ := HZR.out.eight
  have fz := HZR.out.frozen
  have hwlt := HZR.out.lt
  refine wpAnyN_two (i := 4) (j := 5) (by kernel_rfl) rfl rfl (by kernel_rfl) (by kernel_rfl) ?_ ?_
  · intro K' hK
    try simp only [Act.put]
    go_simp
    refine hK.out _ _ HDA.out (fun h => absurd h (by decide)) ?_
    refine wpAnyN_step (i := 5) (by kernel_rfl) rfl (by kernel_rfl) ?_
    intro K' hK
    try simp only [Act.put]
    go_simp
    rw [zero_store HZR.out]
    refine hK.out _ _ HDA.out (fun h => absurd h (by decide)) ?_
    refine wpAnyN_step (i := 6) (by kernel_rfl) rfl (by kernel_rfl) ?_
    intro K' hK
    try simp only [Act.put]
    go_simp
    refine hK.out _ _ HDA.out (fun h => absurd h (by decide)) ?_
    refine wpAnyN_done (by kernel_rfl) ?_
    try simp only [Act.put]
    try go_simp
    repeat go_step
    refine bodyPost_ret (v := .tuple #[.agg (cmdA zeroC), _]) (results_row_tmp2 rfl _ _ w.heap.size _ _ _ _ rfl (HZR.out.keep HDA.out) Tryd.underlying23 rfl (Tryd.sizeCmd _) _ rfl) rfl ?_
    exact ⟨_, by rw [HDT.out], by rw [HDT.out]; exact HKS.out, HBF.out⟩
  · intro K' hK
    try simp only [Act.put]
    go_simp
    rw [zero_store HZR.out]
    refine hK.out _ _ HDR.out (fun h => absurd h (by decide)) ?_
    refine wpAnyN_step (i := 4) (by kernel_rfl) rfl (by kernel_rfl) ?_
    intro K' hK
    try simp only [Act.put]
    go_simp
    refine hK.out _ _ HDA.out (fun h => absurd h (by decide)) ?_
    refine wpAnyN_step (i := 6) (by kernel_rfl) rfl (by kernel_rfl) ?_
    intro K' hK
    try simp only [Act.put]
    go_simp
    refine hK.out _ _ HDA.out (fun h => absurd h (by decide)) ?_
    refine wpAnyN_done (by kernel_rfl) ?_
    try simp only [Act.put]
    try go_simp
    repeat go_step
    refine bodyPost_ret (v := .tuple #[.agg (cmdA zeroC), _]) (results_row_tmp2 rfl _ _ w.heap.size _ _ _ _ rfl (HZR.out.keep HDA.out) Tryd.underlying23 rfl (Tryd.sizeCmd _) _ rfl) rfl ?_
    exact ⟨_, by rw [HDT.out], by rw [HDT.out]; exact HKS.out, HBF.out⟩

structure RdI (n g x : Nat) (fs r : List Nat) (w : World) (i : Nat) (W : World) : Prop where
  res : CmdAt W n zeroC
  cmd : CmdAt W (n + 1) (rdT fs (opC x) r i).1
  rd : ∃ v, W.heap[g]? = some (.cells #[v, .int .i64 0] 77 (0, 0)) ∧ BytesAt W v (rdT fs (opC x) r i).2.1
  e0 : (rdT fs (opC x) r i).2.2 = 0
  all : ∀ k, k < i → rdE fs (opC x) r k = 0
  below : Below n w W
  len : (rdT fs (opC x) r i).2.1.length ≤ 100000
theorem heap_other {W : World} {g b : Nat} (hne : g ≠ b) (d : Cmd8) : ((((((((W.setCell ⟨b, 0, none⟩ (.int .i64 (d 0))).setCell ⟨b, 1, none⟩ (.int .i64 (d 1))).setCell ⟨b, 2, none⟩ (.int .i64 (d 2))).setCell ⟨b, 3, none⟩ (.int .i64 (d 3))).setCell ⟨b, 4, none⟩ (.int .i64 (d 4))).setCell ⟨b, 5, none⟩ (.int .i64 (d 5))).setCell ⟨b, 6, none⟩ (.int .i64 (d 6))).setCell ⟨b, 7, none⟩ (.int .i64 (d 7))).heap[g]? = W.heap[g]? := by
  rw [Below.heap_setCell _ _ _ _ hne, Below.heap_setCell _ _ _ _ hne, Below.heap_setCell _ _ _ _ hne, Below.heap_setCell _ _ _ _ hne, Below.heap_setCell _ _ _ _ hne, Below.heap_setCell _ _ _ _ hne, Below.heap_setCell _ _ _ _ hne, Below.heap_setCell _ _ _ _ hne]
/-- Bytes stay where a command is written. -/
theorem bytes_all {W : World} {v : Value} {b : Nat} {c : Cmd8} {bs : List Nat} (h : BytesAt W v bs) (hc : CmdAt W b c) (d : Cmd8) : BytesAt ((((((((W.setCell ⟨b, 0, none⟩ (.int .i64 (d 0))).setCell ⟨b, 1, none⟩ (.int .i64 (d 1))).setCell ⟨b, 2, none⟩ (.int .i64 (d 2))).setCell ⟨b, 3, none⟩ (.int .i64 (d 3))).setCell ⟨b, 4, none⟩ (.int .i64 (d 4))).setCell ⟨b, 5, none⟩ (.int .i64 (d 5))).setCell ⟨b, 6, none⟩ (.int .i64 (d 6))).setCell ⟨b, 7, none⟩ (.int .i64 (d 7))) v bs := by
  obtain ⟨A, cap, rfl, a2, a3, a4, a5, a6⟩ := h
  refine ⟨A, cap, rfl, a2, a3, a4, a5, fun hp => ?_⟩
  obtain ⟨bb, off, rfl, hlt, hcell⟩ := a6 hp
  refine ⟨bb, off, rfl, by simpa using hlt, fun j x hx => ?_⟩
  have hk := hcell j x hx
  have hbb : bb ≠ b := by
    rintro rfl
    have h' : W.heap[bb]? = _ := hc
    have key : ∀ (k : Nat) (v : Value), (cmdA c)[k]? = some v → ∃ n, v = .int .i64 n := by
      intro k v hv
      rcases Nat.lt_or_ge k 8 with h8 | h8
      · rw [cmdA_get c h8] at hv; exact ⟨_, (Option.some.inj hv).symm⟩
      · rw [Array.getElem?_eq_none (by unfold cmdA; simpa using h8)] at hv; cases hv
    simp only [World.cell?, h'] at hk
    obtain ⟨n, hn⟩ := key _ _ hk
    cases hn
  rw [← hk]
  have e := heap_other (W := W) hbb d
  simp only [World.cell?, e]
theorem rd_keep2 {W : World} {A : Option Addr} {n m g : Nat} {x : Value} {e : Int} {T : TypeId} {bs : List Nat} (h : BytesAt W (.slice A n m) bs) (hz : W.heap[g]? = some (.cells #[x, .int .i64 e] T (0, 0))) (hx : ∃ B n' m', x = .slice B n' m') (u v : Value) : BytesAt ((W.setCell ⟨g, 0, none⟩ u).setCell ⟨g, 1, none⟩ v) (.slice A n m) bs := by
  obtain ⟨A0, c0, e, h2, h3, h4, h5, h6⟩ := h
  injection e with e1 e2 e3
  subst e1 e2 e3
  refine ⟨A, m, rfl, h2, h3, h4, h5, fun hp => ?_⟩
  obtain ⟨b, off, e, hlt, hc⟩ := h6 hp
  refine ⟨b, off, e, by simpa using hlt, fun j z hz' => ?_⟩
  have hk := hc j z hz'
  have hne : b ≠ g := by
    rintro rfl
    obtain ⟨B, n', m', rfl⟩ := hx
    rcases hq : off + j with _ | _ | q
    all_goals (rw [hq] at hk; simp [World.cell?, hz] at hk)
  rw [← hk]
  have e1 : ((W.setCell ⟨g, 0, none⟩ u).setCell ⟨g, 1, none⟩ v).heap[b]? = W.heap[b]? := (Below.heap_setCell _ _ _ _ hne).trans (Below.heap_setCell _ _ _ _ hne)
  simp [World.cell?, e1]
theorem numT_len (bs : List Nat) (e : Int) (most : Nat) : (numT bs e most).2.1.length ≤ bs.length := by
  unfold numT
  split
  · exact Nat.le_refl _
  · split
    · simp
    · split
      · simp
      · show (bs.drop _).length ≤ _; simp

set_option maxRecDepth 100000 in
set_option maxHeartbeats 4000000 in
theorem refDecode_end (b off c x : Nat) (r : List Nat) (w : World) (hv : BytesAt w (.slice (some ⟨b, off, none⟩) (r.length + 1) c) (x :: r)) (fs : List Nat) (hfs : fieldsT (x : Int) = some fs) (hl : r.length ≤ 100000) (hc1 : c = 1) :
    Calls Tryd.prog 17 #[.slice (some ⟨b, off, none⟩) (r.length + 1) c] w (RefDecP (x :: r) w) := by
  have hb : Below w.heap.size w (w.alloc (.cells #[.int .i64 0, .int .i64 0, .int .i64 0, .int .i64 0, .int .i64 0, .int .i64 0, .int .i64 0, .int .i64 0] 23)) := (Below.refl _ _).alloc (Nat.le_refl _) _
  have hz : CmdAt (w.alloc (.cells #[.int .i64 0, .int .i64 0, .int .i64 0, .int .i64 0, .int .i64 0, .int .i64 0, .int .i64 0, .int .i64 0] 23)) w.heap.size zeroC := World.alloc_heap_new _ _
  have hx256 : x < 256 := hv.small (j := 0) rfl
  have HBY := Lib.hid (hv.keep hb)
  obtain ⟨A, c', e', h2, h3, h4, h5, h6⟩ := HBY.out
  injection e' with e1 e2 e3
  subst e1 e3
  obtain ⟨b', off', e'', hlt, hcell⟩ := h6 (by simp)
  injection e'' with e4
  injection e4 with e5 e6 _
  subst e5 e6
  have c0 := hcell 0 x rfl
  rw [Nat.add_zero] at c0
  have hlc : r.length + 1 ≤ c := by simpa using h2
  have hbl : b < (w.alloc (.cells #[.int .i64 0, .int .i64 0, .int .i64 0, .int .i64 0, .int .i64 0, .int .i64 0, .int .i64 0, .int .i64 0] 23)).heap.size := hlt
  have hs1 : (w.alloc (.cells #[.int .i64 0, .int .i64 0, .int .i64 0, .int .i64 0, .int .i64 0, .int .i64 0, .int .i64 0, .int .i64 0] 23)).heap.size = w.heap.size + 1 := World.size_alloc _ _
  clear h6 hcell h4 h5 h2 h3 hlt e2 hv
  go_enter Tryd.func17, Tryd.ntmps17
  go_upto_region 1 with fail
  generalize w.alloc (.cells #[.int .i64 0, .int .i64 0, .int .i64 0, .int .i64 0, .int .i64 0, .int .i64 0, .int .i64 0, .int .i64 0] 23) = w1 at *
  have HZ := Lib.hid hz
  have HB := Lib.hid hb
  clear hz hb
  go_upto_region 4 with fail
  have hcc : CmdAt (w1.alloc (.cells #[.int .i64 x, .int .i64 0, .int .i64 0, .int .i64 0, .int .i64 0, .int .i64 0, .int .i64 0, .int .i64 0] 23)) (w.heap.size + 1) (opC x) := new_at w1 (.cells #[.int .i64 x, .int .i64 0, .int .i64 0, .int .i64 0, .int .i64 0, .int .i64 0, .int .i64 0, .int .i64 0] 23) hs1
  have hb1 : Below w1.heap.size w1 (w1.alloc (.cells #[.int .i64 x, .int .i64 0, .int .i64 0, .int .i64 0, .int .i64 0, .int .i64 0, .int .i64 0, .int .i64 0] 23)) := (Below.refl _ _).alloc (Nat.le_refl _) _
  have HZR := Lib.hid (HZ.out.keep hb1)
  have HBWR := Lib.hid (HB.out.trans (hb1.mono HB.out.size))
  have HBY1 := Lib.hid (HBY.out.keep hb1)
  have hs2 := World.size_alloc w1 (.cells #[.int .i64 x, .int .i64 0, .int .i64 0, .int .i64 0, .int .i64 0, .int .i64 0, .int .i64 0, .int .i64 0] 23)
  rw [hs1] at *
  generalize w1.alloc (.cells #[.int .i64 x, .int .i64 0, .int .i64 0, .int .i64 0, .int .i64 0, .int .i64 0, .int .i64 0, .int .i64 0] 23) = wr at *
  have HCC := Lib.hid hcc
  have k0 := hcc.cell (j := 0) (by decide)
  have hk0 : opC (x : Int) 0 = (x : Int) := rfl
  rw [hk0] at k0
  clear c0 hcc hb1 hs2 hs1
  have HN := Lib.hid (names_any (x : Int) wr)
  have hx := nameS_x hfs
  have HSZ := Lib.hid (nameS_size hfs)
  have HGET := Lib.hid (fun i j h => nameS_get hfs (i := i) (j := j) h)
  generalize nameS (x : Int) = S at *
  have HFS := Lib.hid hfs
  have hlen := fieldsT_len hfs
  have hsl : BytesAt wr (.slice (some ⟨b, off, none⟩) r.length 0) r := by have := behind_end HBY1.out (k := 1) (by simp) hc1; simpa using this
  have hb3 : Below wr.heap.size wr (wr.alloc (.cells #[.slice (some ⟨b, off, none⟩) r.length 0, .int .i64 0] 77)) := (Below.refl _ _).alloc (Nat.le_refl _) _
  have hng : w.heap.size + 1 < wr.heap.size := HCC.out.lt
  have HI0 := Lib.hid (show RdI w.heap.size wr.heap.size x fs r w 0 (wr.alloc (.cells #[.slice (some ⟨b, off, none⟩) r.length 0, .int .i64 0] 77)) from
    ⟨HZR.out.keep hb3, HCC.out.keep hb3, ⟨_, new_at wr _ rfl, hsl.keep hb3⟩, rfl, fun k hk => absurd hk (Nat.not_lt_zero _), HBWR.out.trans (hb3.mono HBWR.out.size), hl⟩)
  clear hb3 hsl hfs
  go_wp2_with fail
  refine HN.out.mono ?_
  rintro e w2 ⟨rfl, rfl⟩
  go_upto_region 8 with fail
  generalize wr.alloc (.cells #[.slice (some ⟨b, off, none⟩) r.length 0, .int .i64 0] 77) = w3 at *
  generalize wr.heap.size = g at *
  clear k0 hx hbl
  go_wp2_with fail
  go_loopg [7, 8, 9] fs.length (fun gg s7 s8 s9 wr => ∃ i : Nat, gg = fs.length - i ∧ i ≤ fs.length ∧ s7 = .int .i64 i ∧ Hid (RdI w.heap.size g x fs r w i wr))
  case atStart => exact ⟨0, rfl, Nat.zero_le _, rfl, HI0.out⟩
  case round =>
    obtain ⟨i, hg, hi, rfl, hI⟩ := hrel
    have HG0 := Lib.hid hg
    have HI := Lib.hid hI.out
    have hsz := HSZ.out
    clear hg hI
    by_cases hlt : i < fs.length
    · obtain ⟨j, hj⟩ := ex_at' hlt
      have hjb := fieldsT_lt HFS.out j (List.mem_of_getElem? hj)
      have HJ := Lib.hid hj
      have HIS : Hid ((i : Int) < (S.size : Int)) := by unfold Hid; omega
      have HG := Lib.hid (fun h => HGET.out i j hj h)
      have hat := atF_eq hj
      obtain ⟨hres, hcmd, ⟨v, hrd, hby⟩, he0, hall, hbel, hle⟩ := HI.out
      have hop := rdT_op (fieldsT_lt HFS.out) (opC x) r i (by omega)
      have hrd1 : rdT fs (opC x) r (i + 1) = (updC (rdT fs (opC x) r i).1 j (numT (rdT fs (opC x) r i).2.1 0 2147483647).1, (numT (rdT fs (opC x) r i).2.1 0 2147483647).2.1, (numT (rdT fs (opC x) r i).2.1 0 2147483647).2.2) := by
        show (updC (rdT fs (opC x) r i).1 (atF fs i) _, _, _) = _
        rw [he0, hat]
      have HRE := Lib.hid (show rdE fs (opC x) r i = (numT (rdT fs (opC x) r i).2.1 0 2147483647).2.2 by show (rdT fs (opC x) r (i + 1)).2.2 = _; rw [hrd1])
      have HR1 := Lib.hid hrd1
      have hd0 : (rdT fs (opC x) r i).1 0 = (x : Int) := hop
      generalize rdT fs (opC x) r i = T at *
      obtain ⟨d, bs, e0⟩ := T
      simp only at hcmd hby he0 hle hd0
      have hm := numT_le bs 0 2147483647
      have HNUM := Lib.hid (refRead_any v bs 2147483647 wr hby hle (by decide))
      have hlen2 : (numT bs 0 2147483647).2.1.length ≤ bs.length := numT_len bs 0 2147483647
      have HR2 := Lib.hid (show rdT fs (opC x) r (i + 1) = (updC d j (numT bs 0 2147483647).1, (numT bs 0 2147483647).2.1, (numT bs 0 2147483647).2.2) from HR1.out)
      have HRE2 := Lib.hid (show rdE fs (opC x) r i = (numT bs 0 2147483647).2.2 from HRE.out)
      clear hrd1 HRE HR1
      generalize numT bs 0 2147483647 = T at *
      obtain ⟨q, bs', e'⟩ := T
      simp only at hm hlen2
      have HQW : Hid (IntKind.i64.wrap (q : Int) = (q : Int)) := by unfold Hid; rw [IntWalk.i64_in _ (by omega)]
      have hvs : ∃ B n' m', v = .slice B n' m' := by obtain ⟨A, c', h, _⟩ := hby; exact ⟨_, _, _, h⟩
      obtain ⟨r0, r1, r2, r3⟩ := two_cells hrd
      have hgl := heap_lt hrd
      have HRES := Lib.hid hres
      have HCMD := Lib.hid hcmd
      have HRD := Lib.hid hrd
      have HBEL := Lib.hid hbel
      have HALL := Lib.hid hall
      have HLE := Lib.hid (show bs'.length ≤ 100000 by omega)
      have HD0 := Lib.hid hd0
      have hiz : (i : Int) < (fs.length : Int) := by omega
      clear hj hat hres hcmd hrd hby he0 hall hbel hle hlen2 hop hd0
      go_wp2_with fail
      refine HNUM.out.mono ?_
      rintro e w2 ⟨v2, rfl, hby2, hb2⟩
      have HBY2 := Lib.hid hby2
      have HB2 := Lib.hid hb2
      obtain ⟨A2, c2, rfl, _⟩ := hby2
      have hsz2 := hb2.size
      clear hb2 r0 r1 r2 r3
      have hb3 : Below w2.heap.size w2 (w2.alloc (.cells #[.slice A2 bs'.length c2, .int .i64 e'] 77)) := (Below.refl _ _).alloc (Nat.le_refl _) _
      have hs3 := new_at w2 (.cells #[.slice A2 bs'.length c2, .int .i64 e'] 77) rfl
      have HB3 := Lib.hid (HB2.out.trans (hb3.mono hsz2))
      have HBY3 := Lib.hid (HBY2.out.keep hb3)
      go_upto_region 12 with fail
      generalize w2.alloc (.cells #[.slice A2 bs'.length c2, .int .i64 e'] 77) = w3 at *
      obtain ⟨s0, s1, _, _⟩ := two_cells hs3
      have hrd3 := (HB3.out.block g hgl).trans HRD.out
      obtain ⟨r0, r1, r2, r3⟩ := two_cells hrd3
      have hgs : g ≠ w2.heap.size := by omega
      have HRD3 := Lib.hid hrd3
      clear hb3 hs3 hrd3
      go_upto_region 13 with fail
      have HRES4 := Lib.hid (((HRES.out.keep HB3.out).elsewhere (b' := g) (o := 0) (by omega) (.slice A2 bs'.length c2)).elsewhere (b' := g) (o := 1) (by omega) (.int .i64 e'))
      have HCMD4 := Lib.hid (((HCMD.out.keep HB3.out).elsewhere (b' := g) (o := 0) (by omega) (.slice A2 bs'.length c2)).elsewhere (b' := g) (o := 1) (by omega) (.int .i64 e'))
      have HRD4 := Lib.hid (two_set HRD3.out (.slice A2 bs'.length c2) (.int .i64 e'))
      have HBY4 := Lib.hid (rd_keep2 HBY3.out HRD3.out hvs (.slice A2 bs'.length c2) (.int .i64 e'))
      have HBEL4 := Lib.hid (below_two (HBEL.out.trans (HB3.out.mono HBEL.out.size)) (g := g) (by omega) (.slice A2 bs'.length c2) (.int .i64 e'))
      generalize (w3.setCell ⟨g, 0, none⟩ (.slice A2 bs'.length c2)).setCell ⟨g, 1, none⟩ (.int .i64 e') = w4 at *
      obtain ⟨r0, r1, r2, r3⟩ := two_cells HRD4.out
      have HCE := Lib.hid (fun W (h : Below w4.heap.size w4 W) => ((HCMD4.out.keep h).cell (j := 0) (by decide)).trans (by rw [HD0.out] : some (Value.int .i64 (d 0)) = some (.int .i64 x)))
      by_cases hbad : e' = 0
      · subst hbad
        have HOC := Lib.hid HCMD4.out
        have HST := Lib.hid (set_any d j hjb.1 hjb.2 q w4.drew)
        have HOE := Lib.hid (fun W (h : Below w4.heap.size w4 W) => (HOC.out.keep h).eight)
        go_wp2_with fail
        have HDR := Lib.hid (show Below w4.heap.size w4 w4.drew from below_drewN (Below.refl _ _) 1)
        refine wp_region_N (S1 := fun _ => True) (S2 := fun W => Below w4.heap.size w4 W) (N := fun i => i != 7) (by kernel_rfl) ?_
        change wpAnyN _ _ _ _ _ _ _ 8 (Array.replicate 8 false) _ _
        refine wpAnyN_take true (i := 0) (v := .agg (cmdA d)) rfl (by kernel_rfl) (by kernel_rfl) (by kernel_rfl) (fun _ _ _ h => h) (.inl ⟨by kernel_rfl, fun W hS => ?_⟩) ⟨trivial, fun _ => HDR.out⟩ ?_
        · obtain ⟨d0, d1, d2, d3, d4, d5, d6, d7⟩ := HOE.out W (hS.2 rfl)
          simp [execOp, Act.eval, go_sem, cmdA, d0, d1, d2, d3, d4, d5, d6, d7]
        refine wpAnyN_take false (i := 1) (v := .string S) rfl (by kernel_rfl) (by kernel_rfl) (by kernel_rfl) (fun _ _ _ h => h) (.inl ⟨by kernel_rfl, fun W hS => ?_⟩) ⟨trivial, fun h => by cases h⟩ ?_
        · simp [execOp, Act.eval, Act.put, go_sem]
        refine wpAnyN_take false (i := 2) (v := .int .i64 i) rfl (by kernel_rfl) (by kernel_rfl) (by kernel_rfl) (fun _ _ _ h => h) (.inl ⟨by kernel_rfl, fun W hS => ?_⟩) ⟨trivial, fun h => by cases h⟩ ?_
        · simp [execOp, Act.eval, Act.put, go_sem]
        refine wpAnyN_take false (i := 3) (v := .int .u8 (nameN j)) rfl (by kernel_rfl) (by kernel_rfl) (by kernel_rfl) (fun _ _ _ h => h) (.inl ⟨by kernel_rfl, fun W hS => ?_⟩) ⟨trivial, fun h => by cases h⟩ ?_
        · simp [execOp, Act.eval, Act.put, go_sem, HIS.out, HG.out]
        refine wpAnyN_take false (i := 4) (v := .int .u64 q) rfl (by kernel_rfl) (by kernel_rfl) (by kernel_rfl) (fun _ _ _ h => h) (.inl ⟨by kernel_rfl, fun W hS => ?_⟩) ⟨trivial, fun h => by cases h⟩ ?_
        · simp [execOp, Act.eval, Act.put, go_sem]
        refine wpAnyN_take false (i := 5) (v := .int .i64 q) rfl (by kernel_rfl) (by kernel_rfl) (by kernel_rfl) (fun _ _ _ h => h) (.inl ⟨by kernel_rfl, fun W hS => ?_⟩) ⟨trivial, fun h => by cases h⟩ ?_
        · simp [execOp, Act.eval, Act.put, go_sem, HQW.out]
        refine wpAnyN_step (i := 6) (by kernel_rfl) rfl (by kernel_rfl) ?_
        intro K' hK
        try simp only [Act.put]
        go_simp
        refine HST.out.mono ?_
        rintro e w5 ⟨rfl, hb5⟩
        have HB5 := Lib.hid (HDR.out.trans hb5)
        clear hb5
        obtain ⟨z0, z1, z2, z3, z4, z5, z6, z7⟩ := HOE.out w5 HB5.out
        have fz := (HOC.out.keep HB5.out).frozen
        refine hK.out _ _ trivial (fun _ _ => HB5.out) ?_
        refine wpAnyN_step (i := 7) (by kernel_rfl) rfl (by kernel_rfl) ?_
        intro K' hK
        try simp only [Act.put]
        simp only [cmdA]; go_simp
        refine hK.out _ _ trivial (fun h => absurd h (by decide)) ?_
        refine wpAnyN_done (by kernel_rfl) ?_
        try simp only [Act.put]
        try go_simp
        have HI5 := Lib.hid (show RdI w.heap.size g x fs r w (i + 1) _ from ⟨cmd_other (HRES4.out.keep HB5.out) (b := w.heap.size + 1) (by omega) (updC d j q), by rw [HR2.out]; exact (HOC.out.keep HB5.out).all (updC d j q),
          ⟨_, (heap_other (by omega) (updC d j q)).trans ((HB5.out.block g (heap_lt HRD4.out)).trans HRD4.out), by rw [HR2.out]; exact bytes_all (HBY4.out.keep HB5.out) (HOC.out.keep HB5.out) (updC d j q)⟩,
          by rw [HR2.out], fun k hk => by
            rcases Nat.lt_or_ge k i with h | h
            · exact HALL.out k h
            · rw [show k = i by omega]; exact HRE2.out,
          below_all (HBEL4.out.trans (HB5.out.mono HBEL4.out.size)) (by omega) (updC d j q), by rw [HR2.out]; exact HLE.out⟩)
        clear z0 z1 z2 z3 z4 z5 z6 z7 fz r0 r1 r2 r3 s0 s1
        go_wp2_with fail
        go_roundg (fs.length - (i + 1))
        case measure => have := HG0.out; omega
        case rel => exact ⟨i + 1, rfl, by omega, by go_num, HI5.out⟩
      · have hbz : (e' != 0) = true := by simpa using hbad
        have HDT := Lib.hid (show decodeT (x :: r) = (zeroC, [(3, cmdS, (x : Int)), (e', fieldS, ((i + 1 : Nat) : Int))]) by
          have hf := firstK_at (E := rdE fs (opC x) r) HALL.out (by rw [HRE2.out]; exact hbad) hlt
          unfold decodeT
          simp only
          rw [HFS.out]
          simp only
          rw [if_pos (by rw [hf]; simp), hf, HRE2.out])
        have HWR : Hid (IntKind.i64.wrap ((i : Int) + 1) = (i : Int) + 1) := by unfold Hid; rw [IntWalk.i64_in _ (by omega)]
        have HRE1 := Lib.hid (fun W (h : Below w4.heap.size w4 W) => (two_cells ((h.block g (heap_lt HRD4.out)).trans HRD4.out)).2.1)
        have HZR := Lib.hid HRES4.out
        have HBWR := Lib.hid HBEL4.out
        have hks := keys_two (new_at w4 (.cells #[.int .i64 3, .string cmdS, .int .i64 x, .int .i64 e', .string fieldS, .int .i64 ((i : Int) + 1)] 53) rfl)
        have HKS := Lib.hid (show KeysAt (w4.alloc (.cells #[.int .i64 3, .string cmdS, .int .i64 x, .int .i64 e', .string fieldS, .int .i64 ((i : Int) + 1)] 53)).drew _ _ from hks)
        clear hbad hks
        go_wp2_with fail
        have HDR := Lib.hid (show Below w4.heap.size w4 w4.drew from below_drewN (Below.refl _ _) 1)
        have HDA := Lib.hid (show Below w4.heap.size w4 (w4.alloc (.cells #[.int .i64 3, .string cmdS, .int .i64 x, .int .i64 e', .string fieldS, .int .i64 ((i : Int) + 1)] 53)).drew from ((Below.refl _ w4).alloc (Nat.le_refl _) _).drew)
        have HBF := Lib.hid (HBWR.out.trans (HDA.out.mono HBWR.out.size))
        refine wp_region_N (S1 := fun W => Below w4.heap.size w4 W) (S2 := fun _ => True) (N := fun _ => false) (by kernel_rfl) ?_
        change wpAnyN _ _ _ _ _ _ _ 12 (Array.replicate 12 false) _ _
        refine wpAnyN_take false (i := 0) (v := .agg #[.int .i64 0, .int .i64 0, .int .i64 0, .int .i64 0, .int .i64 0, .int .i64 0, .int .i64 0, .int .i64 0]) rfl (by kernel_rfl) (by kernel_rfl) (by kernel_rfl) (fun _ _ _ h => h) (.inl ⟨by kernel_rfl, fun W hS => ?_⟩) ⟨HDR.out, fun h => by cases h⟩ ?_
        · simp [execOp, Act.eval, go_sem]
        refine wpAnyN_take false (i := 1) (v := .pointer (some ⟨w.heap.size + 1, 0, none⟩)) rfl (by kernel_rfl) (by kernel_rfl) (by kernel_rfl) (fun _ _ _ h => h) (.inl ⟨by kernel_rfl, fun W hS => ?_⟩) ⟨HDR.out, fun h => by cases h⟩ ?_
        · simp [execOp, Act.eval, Act.put, go_sem]
        refine wpAnyN_take false (i := 2) (v := .int .i64 x) rfl (by kernel_rfl) (by kernel_rfl) (by kernel_rfl) (fun _ _ _ h => h) (.inl ⟨by kernel_rfl, fun W hS => ?_⟩) ⟨HDR.out, fun h => by cases h⟩ ?_
        · simp [execOp, Act.eval, Act.put, go_sem, show W.cell? ⟨w.heap.size + 1, 0, none⟩ = some (.int .i64 x) from HCE.out W hS.1]
        refine wpAnyN_take false (i := 3) (v := .agg #[.int .i64 3, .string cmdS, .int .i64 x]) rfl (by kernel_rfl) (by kernel_rfl) (by kernel_rfl) (fun _ _ _ h => h) (.inl ⟨by kernel_rfl, fun W hS => ?_⟩) ⟨HDR.out, fun h => by cases h⟩ ?_
        · simp [execOp, Act.eval, Act.put, go_sem, cmdS]
        refine wpAnyN_take false (i := 4) (v := .pointer (some ⟨g, 1, none⟩)) rfl (by kernel_rfl) (by kernel_rfl) (by kernel_rfl) (fun _ _ _ h => h) (.inl ⟨by kernel_rfl, fun W hS => ?_⟩) ⟨HDR.out, fun h => by cases h⟩ ?_
        · simp [execOp, Act.eval, Act.put, go_sem]
        refine wpAnyN_take false (i := 5) (v := .int .i64 e') rfl (by kernel_rfl) (by kernel_rfl) (by kernel_rfl) (fun _ _ _ h => h) (.inl ⟨by kernel_rfl, fun W hS => ?_⟩) ⟨HDR.out, fun h => by cases h⟩ ?_
        · simp [execOp, Act.eval, Act.put, go_sem, show W.cell? ⟨g, 1, none⟩ = some (.int .i64 e') from HRE1.out W hS.1]
        refine wpAnyN_take false (i := 6) (v := .int .i64 i) rfl (by kernel_rfl) (by kernel_rfl) (by kernel_rfl) (fun _ _ _ h => h) (.inl ⟨by kernel_rfl, fun W hS => ?_⟩) ⟨HDR.out, fun h => by cases h⟩ ?_
        · simp [execOp, Act.eval, Act.put, go_sem]
        refine wpAnyN_take false (i := 7) (v := .int .i64 ((i : Int) + 1)) rfl (by kernel_rfl) (by kernel_rfl) (by kernel_rfl) (fun _ _ _ h => h) (.inl ⟨by kernel_rfl, fun W hS => ?_⟩) ⟨HDR.out, fun h => by cases h⟩ ?_
        · simp [execOp, Act.eval, Act.put, go_sem, HWR.out]
        refine wpAnyN_take false (i := 8) (v := .agg #[.int .i64 e', .string fieldS, .int .i64 ((i : Int) + 1)]) rfl (by kernel_rfl) (by kernel_rfl) (by kernel_rfl) (fun _ _ _ h => h) (.inl ⟨by kernel_rfl, fun W hS => ?_⟩) ⟨HDR.out, fun h => by cases h⟩ ?_
        · simp [execOp, Act.eval, Act.put, go_sem, fieldS]
        obtain ⟨z0, z1, z2, z3, z4, z5, z6, z7⟩ := HZR.out.eight
        have fz := HZR.out.frozen
        have hwlt := HZR.out.lt
        refine wpAnyN_two (i := 9) (j := 10) (by kernel_rfl) rfl rfl (by kernel_rfl) (by kernel_rfl) ?_ ?_
        · intro K' hK
          try simp only [Act.put]
          go_simp
          refine hK.out _ _ HDA.out (fun h => absurd h (by decide)) ?_
          refine wpAnyN_step (i := 10) (by kernel_rfl) rfl (by kernel_rfl) ?_
          intro K' hK
          try simp only [Act.put]
          go_simp
          rw [zero_store HZR.out]
          refine hK.out _ _ HDA.out (fun h => absurd h (by decide)) ?_
          refine wpAnyN_step (i := 11) (by kernel_rfl) rfl (by kernel_rfl) ?_
          intro K' hK
          try simp only [Act.put]
          go_simp
          refine hK.out _ _ HDA.out (fun h => absurd h (by decide)) ?_
          refine wpAnyN_done (by kernel_rfl) ?_
          try simp only [Act.put]
          try go_simp
          repeat go_step
          refine bodyPost_ret (v := .tuple #[.agg (cmdA zeroC), _]) (results_row_tmp2 rfl _ _ w.heap.size _ _ _ _ rfl (HZR.out.keep HDA.out) Tryd.underlying23 rfl (Tryd.sizeCmd _) _ rfl) rfl ?_
          exact ⟨_, by rw [HDT.out], by rw [HDT.out]; exact HKS.out, HBF.out⟩
        · intro K' hK
          try simp only [Act.put]
          go_simp
          rw [zero_store HZR.out]
          refine hK.out _ _ HDR.out (fun h => absurd h (by decide)) ?_
          refine wpAnyN_step (i := 9) (by kernel_rfl) rfl (by kernel_rfl) ?_
          intro K' hK
          try simp only [Act.put]
          go_simp
          refine hK.out _ _ HDA.out (fun h => absurd h (by decide)) ?_
          refine wpAnyN_step (i := 11) (by kernel_rfl) rfl (by kernel_rfl) ?_
          intro K' hK
          try simp only [Act.put]
          go_simp
          refine hK.out _ _ HDA.out (fun h => absurd h (by decide)) ?_
          refine wpAnyN_done (by kernel_rfl) ?_
          try simp only [Act.put]
          try go_simp
          repeat go_step
          refine bodyPost_ret (v := .tuple #[.agg (cmdA zeroC), _]) (results_row_tmp2 rfl _ _ w.heap.size _ _ _ _ rfl (HZR.out.keep HDA.out) Tryd.underlying23 rfl (Tryd.sizeCmd _) _ rfl) rfl ?_
          exact ⟨_, by rw [HDT.out], by rw [HDT.out]; exact HKS.out, HBF.out⟩
    · have hiL : i = fs.length := by omega
      have hiz : ¬ (i : Int) < (fs.length : Int) := by omega
      obtain ⟨hres, hcmd, ⟨v, hrd, hby⟩, he0, hall, hbel, hle⟩ := HI.out
      have hd0 := rdT_op (fieldsT_lt HFS.out) (opC x) r i (by omega)
      have hdt : decodeT (x :: r) = if 0 < (rdT fs (opC x) r i).2.1.length then (zeroC, [(3, cmdS, (x : Int)), (4, fieldS, (fs.length : Int))]) else ((rdT fs (opC x) r i).1, []) := by
        have hf := firstK_none (E := rdE fs (opC x) r) (n := fs.length) (fun k hk => hall k (by omega))
        unfold decodeT
        simp only
        rw [HFS.out]
        simp only
        rw [if_neg (by rw [hf]; simp), ← hiL]
      generalize rdT fs (opC x) r i = T at *
      obtain ⟨d, rest, e0⟩ := T
      simp only at hcmd hby he0 hle hd0 hdt
      have hd1 : d 0 = (x : Int) := hd0
      obtain ⟨A2, c2, rfl, _⟩ := hby
      obtain ⟨r0, r1, _, _⟩ := two_cells hrd
      have HZR := Lib.hid hres
      have HBWR := Lib.hid hbel
      have HCM := Lib.hid hcmd
      have HCE := Lib.hid (fun W (h : Below wr.heap.size wr W) => ((hcmd.keep h).cell (j := 0) (by decide)).trans (by rw [hd1] : some (Value.int .i64 (d 0)) = some (.int .i64 x)))
      clear hiL hres hcmd hrd he0 hall hbel hd0 hlt
      by_cases hrest : 0 < rest.length
      · have HDT := Lib.hid (show decodeT (x :: r) = (zeroC, [(3, cmdS, (x : Int)), (4, fieldS, (fs.length : Int))]) by rw [hdt, if_pos hrest])
        have hpz : (0 : Int) < (rest.length : Int) := by omega
        have hks := keys_two (new_at wr (.cells #[.int .i64 3, .string cmdS, .int .i64 x, .int .i64 4, .string fieldS, .int .i64 (fs.length : Int)] 53) rfl)
        have HKS := Lib.hid (show KeysAt (wr.alloc (.cells #[.int .i64 3, .string cmdS, .int .i64 x, .int .i64 4, .string fieldS, .int .i64 (fs.length : Int)] 53)).drew _ _ from hks)
        clear hdt hks hd1
        go_wp2_with fail
        have HDR := Lib.hid (show Below wr.heap.size wr wr.drew from below_drewN (Below.refl _ _) 1)
        have HDA := Lib.hid (show Below wr.heap.size wr (wr.alloc (.cells #[.int .i64 3, .string cmdS, .int .i64 x, .int .i64 4, .string fieldS, .int .i64 (fs.length : Int)] 53)).drew from ((Below.refl _ wr).alloc (Nat.le_refl _) _).drew)
        have HBF := Lib.hid (HBWR.out.trans (HDA.out.mono HBWR.out.size))
        refine wp_region_N (S1 := fun W => Below wr.heap.size wr W) (S2 := fun _ => True) (N := fun _ => false) (by kernel_rfl) ?_
        change wpAnyN _ _ _ _ _ _ _ 10 (Array.replicate 10 false) _ _
        refine wpAnyN_take false (i := 0) (v := .agg #[.int .i64 0, .int .i64 0, .int .i64 0, .int .i64 0, .int .i64 0, .int .i64 0, .int .i64 0, .int .i64 0]) rfl (by kernel_rfl) (by kernel_rfl) (by kernel_rfl) (fun _ _ _ h => h) (.inl ⟨by kernel_rfl, fun W hS => ?_⟩) ⟨HDR.out, fun h => by cases h⟩ ?_
        · simp [execOp, Act.eval, go_sem]
        refine wpAnyN_take false (i := 1) (v := .pointer (some ⟨w.heap.size + 1, 0, none⟩)) rfl (by kernel_rfl) (by kernel_rfl) (by kernel_rfl) (fun _ _ _ h => h) (.inl ⟨by kernel_rfl, fun W hS => ?_⟩) ⟨HDR.out, fun h => by cases h⟩ ?_
        · simp [execOp, Act.eval, Act.put, go_sem]
        refine wpAnyN_take false (i := 2) (v := .int .i64 x) rfl (by kernel_rfl) (by kernel_rfl) (by kernel_rfl) (fun _ _ _ h => h) (.inl ⟨by kernel_rfl, fun W hS => ?_⟩) ⟨HDR.out, fun h => by cases h⟩ ?_
        · simp [execOp, Act.eval, Act.put, go_sem, show W.cell? ⟨w.heap.size + 1, 0, none⟩ = some (.int .i64 x) from HCE.out W hS.1]
        refine wpAnyN_take false (i := 3) (v := .agg #[.int .i64 3, .string cmdS, .int .i64 x]) rfl (by kernel_rfl) (by kernel_rfl) (by kernel_rfl) (fun _ _ _ h => h) (.inl ⟨by kernel_rfl, fun W hS => ?_⟩) ⟨HDR.out, fun h => by cases h⟩ ?_
        · simp [execOp, Act.eval, Act.put, go_sem, cmdS]
        refine wpAnyN_take false (i := 4) (v := .string S) rfl (by kernel_rfl) (by kernel_rfl) (by kernel_rfl) (fun _ _ _ h => h) (.inl ⟨by kernel_rfl, fun W hS => ?_⟩) ⟨HDR.out, fun h => by cases h⟩ ?_
        · simp [execOp, Act.eval, Act.put, go_sem]
        refine wpAnyN_take false (i := 5) (v := .int .i64 (fs.length : Int)) rfl (by kernel_rfl) (by kernel_rfl) (by kernel_rfl) (fun _ _ _ h => h) (.inl ⟨by kernel_rfl, fun W hS => ?_⟩) ⟨HDR.out, fun h => by cases h⟩ ?_
        · simp [execOp, Act.eval, Act.put, go_sem, HSZ.out]
        refine wpAnyN_take false (i := 6) (v := .agg #[.int .i64 4, .string fieldS, .int .i64 (fs.length : Int)]) rfl (by kernel_rfl) (by kernel_rfl) (by kernel_rfl) (fun _ _ _ h => h) (.inl ⟨by kernel_rfl, fun W hS => ?_⟩) ⟨HDR.out, fun h => by cases h⟩ ?_
        · simp [execOp, Act.eval, Act.put, go_sem, fieldS]
        obtain ⟨z0, z1, z2, z3, z4, z5, z6, z7⟩ := HZR.out.eight
        have fz := HZR.out.frozen
        have hwlt := HZR.out.lt
        refine wpAnyN_two (i := 7) (j := 8) (by kernel_rfl) rfl rfl (by kernel_rfl) (by kernel_rfl) ?_ ?_
        · intro K' hK
          try simp only [Act.put]
          go_simp
          refine hK.out _ _ HDA.out (fun h => absurd h (by decide)) ?_
          refine wpAnyN_step (i := 8) (by kernel_rfl) rfl (by kernel_rfl) ?_
          intro K' hK
          try simp only [Act.put]
          go_simp
          rw [zero_store HZR.out]
          refine hK.out _ _ HDA.out (fun h => absurd h (by decide)) ?_
          refine wpAnyN_step (i := 9) (by kernel_rfl) rfl (by kernel_rfl) ?_
          intro K' hK
          try simp only [Act.put]
          go_simp
          refine hK.out _ _ HDA.out (fun h => absurd h (by decide)) ?_
          refine wpAnyN_done (by kernel_rfl) ?_
          try simp only [Act.put]
          try go_simp
          repeat go_step
          refine bodyPost_ret (v := .tuple #[.agg (cmdA zeroC), _]) (results_row_tmp2 rfl _ _ w.heap.size _ _ _ _ rfl (HZR.out.keep HDA.out) Tryd.underlying23 rfl (Tryd.sizeCmd _) _ rfl) rfl ?_
          exact ⟨_, by rw [HDT.out], by rw [HDT.out]; exact HKS.out, HBF.out⟩
        · intro K' hK
          try simp only [Act.put]
          go_simp
          rw [zero_store HZR.out]
          refine hK.out _ _ HDR.out (fun h => absurd h (by decide)) ?_
          refine wpAnyN_step (i := 7) (by kernel_rfl) rfl (by kernel_rfl) ?_
          intro K' hK
          try simp only [Act.put]
          go_simp
          refine hK.out _ _ HDA.out (fun h => absurd h (by decide)) ?_
          refine wpAnyN_step (i := 9) (by kernel_rfl) rfl (by kernel_rfl) ?_
          intro K' hK
          try simp only [Act.put]
          go_simp
          refine hK.out _ _ HDA.out (fun h => absurd h (by decide)) ?_
          refine wpAnyN_done (by kernel_rfl) ?_
          try simp only [Act.put]
          try go_simp
          repeat go_step
          refine bodyPost_ret (v := .tuple #[.agg (cmdA zeroC), _]) (results_row_tmp2 rfl _ _ w.heap.size _ _ _ _ rfl (HZR.out.keep HDA.out) Tryd.underlying23 rfl (Tryd.sizeCmd _) _ rfl) rfl ?_
          exact ⟨_, by rw [HDT.out], by rw [HDT.out]; exact HKS.out, HBF.out⟩
      · have HDT := Lib.hid (show decodeT (x :: r) = (d, []) by rw [hdt, if_neg hrest])
        have hpz : ¬ (0 : Int) < (rest.length : Int) := by omega
        have HD := Lib.hid (HZR.out.all d)
        have HBB := Lib.hid (below_all HBWR.out (Nat.le_refl _) d)
        obtain ⟨z0, z1, z2, z3, z4, z5, z6, z7⟩ := HZR.out.eight
        obtain ⟨d0, d1, d2, d3, d4, d5, d6, d7⟩ := HCM.out.eight
        have fz := HZR.out.frozen
        clear hdt hd1
        repeat go_step
        refine bodyPost_ret (v := .tuple #[.agg (cmdA d), _]) (results_row_tmp2 rfl _ _ w.heap.size _ _ _ _ rfl HD.out Tryd.underlying23 rfl (Tryd.sizeCmd _) _ rfl) rfl ?_
        exact ⟨.slice none 0 0, by rw [HDT.out]; rfl, by rw [HDT.out]; exact KeysAt.nil _, HBB.out⟩

set_option maxRecDepth 100000 in
set_option maxHeartbeats 4000000 in
theorem refDecode_more (b off c x : Nat) (r : List Nat) (w : World) (hv : BytesAt w (.slice (some ⟨b, off, none⟩) (r.length + 1) c) (x :: r)) (fs : List Nat) (hfs : fieldsT (x : Int) = some fs) (hl : r.length ≤ 100000) (hc1 : ¬ c = 1) :
    Calls Tryd.prog 17 #[.slice (some ⟨b, off, none⟩) (r.length + 1) c] w (RefDecP (x :: r) w) := by
  have hb : Below w.heap.size w (w.alloc (.cells #[.int .i64 0, .int .i64 0, .int .i64 0, .int .i64 0, .int .i64 0, .int .i64 0, .int .i64 0, .int .i64 0] 23)) := (Below.refl _ _).alloc (Nat.le_refl _) _
  have hz : CmdAt (w.alloc (.cells #[.int .i64 0, .int .i64 0, .int .i64 0, .int .i64 0, .int .i64 0, .int .i64 0, .int .i64 0, .int .i64 0] 23)) w.heap.size zeroC := World.alloc_heap_new _ _
  have hx256 : x < 256 := hv.small (j := 0) rfl
  have HBY := Lib.hid (hv.keep hb)
  obtain ⟨A, c', e', h2, h3, h4, h5, h6⟩ := HBY.out
  injection e' with e1 e2 e3
  subst e1 e3
  obtain ⟨b', off', e'', hlt, hcell⟩ := h6 (by simp)
  injection e'' with e4
  injection e4 with e5 e6 _
  subst e5 e6
  have c0 := hcell 0 x rfl
  rw [Nat.add_zero] at c0
  have hlc : r.length + 1 ≤ c := by simpa using h2
  have hbl : b < (w.alloc (.cells #[.int .i64 0, .int .i64 0, .int .i64 0, .int .i64 0, .int .i64 0, .int .i64 0, .int .i64 0, .int .i64 0] 23)).heap.size := hlt
  have hs1 : (w.alloc (.cells #[.int .i64 0, .int .i64 0, .int .i64 0, .int .i64 0, .int .i64 0, .int .i64 0, .int .i64 0, .int .i64 0] 23)).heap.size = w.heap.size + 1 := World.size_alloc _ _
  clear h6 hcell h4 h5 h2 h3 hlt e2 hv
  go_enter Tryd.func17, Tryd.ntmps17
  go_upto_region 1 with fail
  generalize w.alloc (.cells #[.int .i64 0, .int .i64 0, .int .i64 0, .int .i64 0, .int .i64 0, .int .i64 0, .int .i64 0, .int .i64 0] 23) = w1 at *
  have HZ := Lib.hid hz
  have HB := Lib.hid hb
  clear hz hb
  go_upto_region 4 with fail
  have hcc : CmdAt (w1.alloc (.cells #[.int .i64 x, .int .i64 0, .int .i64 0, .int .i64 0, .int .i64 0, .int .i64 0, .int .i64 0, .int .i64 0] 23)) (w.heap.size + 1) (opC x) := new_at w1 (.cells #[.int .i64 x, .int .i64 0, .int .i64 0, .int .i64 0, .int .i64 0, .int .i64 0, .int .i64 0, .int .i64 0] 23) hs1
  have hb1 : Below w1.heap.size w1 (w1.alloc (.cells #[.int .i64 x, .int .i64 0, .int .i64 0, .int .i64 0, .int .i64 0, .int .i64 0, .int .i64 0, .int .i64 0] 23)) := (Below.refl _ _).alloc (Nat.le_refl _) _
  have HZR := Lib.hid (HZ.out.keep hb1)
  have HBWR := Lib.hid (HB.out.trans (hb1.mono HB.out.size))
  have HBY1 := Lib.hid (HBY.out.keep hb1)
  have hs2 := World.size_alloc w1 (.cells #[.int .i64 x, .int .i64 0, .int .i64 0, .int .i64 0, .int .i64 0, .int .i64 0, .int .i64 0, .int .i64 0] 23)
  rw [hs1] at *
  generalize w1.alloc (.cells #[.int .i64 x, .int .i64 0, .int .i64 0, .int .i64 0, .int .i64 0, .int .i64 0, .int .i64 0, .int .i64 0] 23) = wr at *
  have HCC := Lib.hid hcc
  have k0 := hcc.cell (j := 0) (by decide)
  have hk0 : opC (x : Int) 0 = (x : Int) := rfl
  rw [hk0] at k0
  clear c0 hcc hb1 hs2 hs1
  have HN := Lib.hid (names_any (x : Int) wr)
  have hx := nameS_x hfs
  have HSZ := Lib.hid (nameS_size hfs)
  have HGET := Lib.hid (fun i j h => nameS_get hfs (i := i) (j := j) h)
  generalize nameS (x : Int) = S at *
  have HFS := Lib.hid hfs
  have hlen := fieldsT_len hfs
  have hsl : BytesAt wr (.slice (some ⟨b, off + 1, none⟩) r.length (c - 1)) r := by have := behind_more HBY1.out (k := 1) (by simp); simpa [Addr.add] using this
  have hb3 : Below wr.heap.size wr (wr.alloc (.cells #[.slice (some ⟨b, off + 1, none⟩) r.length (c - 1), .int .i64 0] 77)) := (Below.refl _ _).alloc (Nat.le_refl _) _
  have hng : w.heap.size + 1 < wr.heap.size := HCC.out.lt
  have HI0 := Lib.hid (show RdI w.heap.size wr.heap.size x fs r w 0 (wr.alloc (.cells #[.slice (some ⟨b, off + 1, none⟩) r.length (c - 1), .int .i64 0] 77)) from
    ⟨HZR.out.keep hb3, HCC.out.keep hb3, ⟨_, new_at wr _ rfl, hsl.keep hb3⟩, rfl, fun k hk => absurd hk (Nat.not_lt_zero _), HBWR.out.trans (hb3.mono HBWR.out.size), hl⟩)
  clear hb3 hsl hfs
  go_wp2_with fail
  refine HN.out.mono ?_
  rintro e w2 ⟨rfl, rfl⟩
  go_upto_region 8 with fail
  generalize wr.alloc (.cells #[.slice (some ⟨b, off + 1, none⟩) r.length (c - 1), .int .i64 0] 77) = w3 at *
  generalize wr.heap.size = g at *
  clear k0 hx hbl
  go_wp2_with fail
  go_loopg [7, 8, 9] fs.length (fun gg s7 s8 s9 wr => ∃ i : Nat, gg = fs.length - i ∧ i ≤ fs.length ∧ s7 = .int .i64 i ∧ Hid (RdI w.heap.size g x fs r w i wr))
  case atStart => exact ⟨0, rfl, Nat.zero_le _, rfl, HI0.out⟩
  case round =>
    obtain ⟨i, hg, hi, rfl, hI⟩ := hrel
    have HG0 := Lib.hid hg
    have HI := Lib.hid hI.out
    have hsz := HSZ.out
    clear hg hI
    by_cases hlt : i < fs.length
    · obtain ⟨j, hj⟩ := ex_at' hlt
      have hjb := fieldsT_lt HFS.out j (List.mem_of_getElem? hj)
      have HJ := Lib.hid hj
      have HIS : Hid ((i : Int) < (S.size : Int)) := by unfold Hid; omega
      have HG := Lib.hid (fun h => HGET.out i j hj h)
      have hat := atF_eq hj
      obtain ⟨hres, hcmd, ⟨v, hrd, hby⟩, he0, hall, hbel, hle⟩ := HI.out
      have hop := rdT_op (fieldsT_lt HFS.out) (opC x) r i (by omega)
      have hrd1 : rdT fs (opC x) r (i + 1) = (updC (rdT fs (opC x) r i).1 j (numT (rdT fs (opC x) r i).2.1 0 2147483647).1, (numT (rdT fs (opC x) r i).2.1 0 2147483647).2.1, (numT (rdT fs (opC x) r i).2.1 0 2147483647).2.2) := by
        show (updC (rdT fs (opC x) r i).1 (atF fs i) _, _, _) = _
        rw [he0, hat]
      have HRE := Lib.hid (show rdE fs (opC x) r i = (numT (rdT fs (opC x) r i).2.1 0 2147483647).2.2 by show (rdT fs (opC x) r (i + 1)).2.2 = _; rw [hrd1])
      have HR1 := Lib.hid hrd1
      have hd0 : (rdT fs (opC x) r i).1 0 = (x : Int) := hop
      generalize rdT fs (opC x) r i = T at *
      obtain ⟨d, bs, e0⟩ := T
      simp only at hcmd hby he0 hle hd0
      have hm := numT_le bs 0 2147483647
      have HNUM := Lib.hid (refRead_any v bs 2147483647 wr hby hle (by decide))
      have hlen2 : (numT bs 0 2147483647).2.1.length ≤ bs.length := numT_len bs 0 2147483647
      have HR2 := Lib.hid (show rdT fs (opC x) r (i + 1) = (updC d j (numT bs 0 2147483647).1, (numT bs 0 2147483647).2.1, (numT bs 0 2147483647).2.2) from HR1.out)
      have HRE2 := Lib.hid (show rdE fs (opC x) r i = (numT bs 0 2147483647).2.2 from HRE.out)
      clear hrd1 HRE HR1
      generalize numT bs 0 2147483647 = T at *
      obtain ⟨q, bs', e'⟩ := T
      simp only at hm hlen2
      have HQW : Hid (IntKind.i64.wrap (q : Int) = (q : Int)) := by unfold Hid; rw [IntWalk.i64_in _ (by omega)]
      have hvs : ∃ B n' m', v = .slice B n' m' := by obtain ⟨A, c', h, _⟩ := hby; exact ⟨_, _, _, h⟩
      obtain ⟨r0, r1, r2, r3⟩ := two_cells hrd
      have hgl := heap_lt hrd
      have HRES := Lib.hid hres
      have HCMD := Lib.hid hcmd
      have HRD := Lib.hid hrd
      have HBEL := Lib.hid hbel
      have HALL := Lib.hid hall
      have HLE := Lib.hid (show bs'.length ≤ 100000 by omega)
      have HD0 := Lib.hid hd0
      have hiz : (i : Int) < (fs.length : Int) := by omega
      clear hj hat hres hcmd hrd hby he0 hall hbel hle hlen2 hop hd0
      go_wp2_with fail
      refine HNUM.out.mono ?_
      rintro e w2 ⟨v2, rfl, hby2, hb2⟩
      have HBY2 := Lib.hid hby2
      have HB2 := Lib.hid hb2
      obtain ⟨A2, c2, rfl, _⟩ := hby2
      have hsz2 := hb2.size
      clear hb2 r0 r1 r2 r3
      have hb3 : Below w2.heap.size w2 (w2.alloc (.cells #[.slice A2 bs'.length c2, .int .i64 e'] 77)) := (Below.refl _ _).alloc (Nat.le_refl _) _
      have hs3 := new_at w2 (.cells #[.slice A2 bs'.length c2, .int .i64 e'] 77) rfl
      have HB3 := Lib.hid (HB2.out.trans (hb3.mono hsz2))
      have HBY3 := Lib.hid (HBY2.out.keep hb3)
      go_upto_region 12 with fail
      generalize w2.alloc (.cells #[.slice A2 bs'.length c2, .int .i64 e'] 77) = w3 at *
      obtain ⟨s0, s1, _, _⟩ := two_cells hs3
      have hrd3 := (HB3.out.block g hgl).trans HRD.out
      obtain ⟨r0, r1, r2, r3⟩ := two_cells hrd3
      have hgs : g ≠ w2.heap.size := by omega
      have HRD3 := Lib.hid hrd3
      clear hb3 hs3 hrd3
      go_upto_region 13 with fail
      have HRES4 := Lib.hid (((HRES.out.keep HB3.out).elsewhere (b' := g) (o := 0) (by omega) (.slice A2 bs'.length c2)).elsewhere (b' := g) (o := 1) (by omega) (.int .i64 e'))
      have HCMD4 := Lib.hid (((HCMD.out.keep HB3.out).elsewhere (b' := g) (o := 0) (by omega) (.slice A2 bs'.length c2)).elsewhere (b' := g) (o := 1) (by omega) (.int .i64 e'))
      have HRD4 := Lib.hid (two_set HRD3.out (.slice A2 bs'.length c2) (.int .i64 e'))
      have HBY4 := Lib.hid (rd_keep2 HBY3.out HRD3.out hvs (.slice A2 bs'.length c2) (.int .i64 e'))
      have HBEL4 := Lib.hid (below_two (HBEL.out.trans (HB3.out.mono HBEL.out.size)) (g := g) (by omega) (.slice A2 bs'.length c2) (.int .i64 e'))
      generalize (w3.setCell ⟨g, 0, none⟩ (.slice A2 bs'.length c2)).setCell ⟨g, 1, none⟩ (.int .i64 e') = w4 at *
      obtain ⟨r0, r1, r2, r3⟩ := two_cells HRD4.out
      have HCE := Lib.hid (fun W (h : Below w4.heap.size w4 W) => ((HCMD4.out.keep h).cell (j := 0) (by decide)).trans (by rw [HD0.out] : some (Value.int .i64 (d 0)) = some (.int .i64 x)))
      by_cases hbad : e' = 0
      · subst hbad
        have HOC := Lib.hid HCMD4.out
        have HST := Lib.hid (set_any d j hjb.1 hjb.2 q w4.drew)
        have HOE := Lib.hid (fun W (h : Below w4.heap.size w4 W) => (HOC.out.keep h).eight)
        go_wp2_with fail
        have HDR := Lib.hid (show Below w4.heap.size w4 w4.drew from below_drewN (Below.refl _ _) 1)
        refine wp_region_N (S1 := fun _ => True) (S2 := fun W => Below w4.heap.size w4 W) (N := fun i => i != 7) (by kernel_rfl) ?_
        change wpAnyN _ _ _ _ _ _ _ 8 (Array.replicate 8 false) _ _
        refine wpAnyN_take true (i := 0) (v := .agg (cmdA d)) rfl (by kernel_rfl) (by kernel_rfl) (by kernel_rfl) (fun _ _ _ h => h) (.inl ⟨by kernel_rfl, fun W hS => ?_⟩) ⟨trivial, fun _ => HDR.out⟩ ?_
        · obtain ⟨d0, d1, d2, d3, d4, d5, d6, d7⟩ := HOE.out W (hS.2 rfl)
          simp [execOp, Act.eval, go_sem, cmdA, d0, d1, d2, d3, d4, d5, d6, d7]
        refine wpAnyN_take false (i := 1) (v := .string S) rfl (by kernel_rfl) (by kernel_rfl) (by kernel_rfl) (fun _ _ _ h => h) (.inl ⟨by kernel_rfl, fun W hS => ?_⟩) ⟨trivial, fun h => by cases h⟩ ?_
        · simp [execOp, Act.eval, Act.put, go_sem]
        refine wpAnyN_take false (i := 2) (v := .int .i64 i) rfl (by kernel_rfl) (by kernel_rfl) (by kernel_rfl) (fun _ _ _ h => h) (.inl ⟨by kernel_rfl, fun W hS => ?_⟩) ⟨trivial, fun h => by cases h⟩ ?_
        · simp [execOp, Act.eval, Act.put, go_sem]
        refine wpAnyN_take false (i := 3) (v := .int .u8 (nameN j)) rfl (by kernel_rfl) (by kernel_rfl) (by kernel_rfl) (fun _ _ _ h => h) (.inl ⟨by kernel_rfl, fun W hS => ?_⟩) ⟨trivial, fun h => by cases h⟩ ?_
        · simp [execOp, Act.eval, Act.put, go_sem, HIS.out, HG.out]
        refine wpAnyN_take false (i := 4) (v := .int .u64 q) rfl (by kernel_rfl) (by kernel_rfl) (by kernel_rfl) (fun _ _ _ h => h) (.inl ⟨by kernel_rfl, fun W hS => ?_⟩) ⟨trivial, fun h => by cases h⟩ ?_
        · simp [execOp, Act.eval, Act.put, go_sem]
        refine wpAnyN_take false (i := 5) (v := .int .i64 q) rfl (by kernel_rfl) (by kernel_rfl) (by kernel_rfl) (fun _ _ _ h => h) (.inl ⟨by kernel_rfl, fun W hS => ?_⟩) ⟨trivial, fun h => by cases h⟩ ?_
        · simp [execOp, Act.eval, Act.put, go_sem, HQW.out]
        refine wpAnyN_step (i := 6) (by kernel_rfl) rfl (by kernel_rfl) ?_
        intro K' hK
        try simp only [Act.put]
        go_simp
        refine HST.out.mono ?_
        rintro e w5 ⟨rfl, hb5⟩
        have HB5 := Lib.hid (HDR.out.trans hb5)
        clear hb5
        obtain ⟨z0, z1, z2, z3, z4, z5, z6, z7⟩ := HOE.out w5 HB5.out
        have fz := (HOC.out.keep HB5.out).frozen
        refine hK.out _ _ trivial (fun _ _ => HB5.out) ?_
        refine wpAnyN_step (i := 7) (by kernel_rfl) rfl (by kernel_rfl) ?_
        intro K' hK
        try simp only [Act.put]
        simp only [cmdA]; go_simp
        refine hK.out _ _ trivial (fun h => absurd h (by decide)) ?_
        refine wpAnyN_done (by kernel_rfl) ?_
        try simp only [Act.put]
        try go_simp
        have HI5 := Lib.hid (show RdI w.heap.size g x fs r w (i + 1) _ from ⟨cmd_other (HRES4.out.keep HB5.out) (b := w.heap.size + 1) (by omega) (updC d j q), by rw [HR2.out]; exact (HOC.out.keep HB5.out).all (updC d j q),
          ⟨_, (heap_other (by omega) (updC d j q)).trans ((HB5.out.block g (heap_lt HRD4.out)).trans HRD4.out), by rw [HR2.out]; exact bytes_all (HBY4.out.keep HB5.out) (HOC.out.keep HB5.out) (updC d j q)⟩,
          by rw [HR2.out], fun k hk => by
            rcases Nat.lt_or_ge k i with h | h
            · exact HALL.out k h
            · rw [show k = i by omega]; exact HRE2.out,
          below_all (HBEL4.out.trans (HB5.out.mono HBEL4.out.size)) (by omega) (updC d j q), by rw [HR2.out]; exact HLE.out⟩)
        clear z0 z1 z2 z3 z4 z5 z6 z7 fz r0 r1 r2 r3 s0 s1
        go_wp2_with fail
        go_roundg (fs.length - (i + 1))
        case measure => have := HG0.out; omega
        case rel => exact ⟨i + 1, rfl, by omega, by go_num, HI5.out⟩
      · have hbz : (e' != 0) = true := by simpa using hbad
        have HDT := Lib.hid (show decodeT (x :: r) = (zeroC, [(3, cmdS, (x : Int)), (e', fieldS, ((i + 1 : Nat) : Int))]) by
          have hf := firstK_at (E := rdE fs (opC x) r) HALL.out (by rw [HRE2.out]; exact hbad) hlt
          unfold decodeT
          simp only
          rw [HFS.out]
          simp only
          rw [if_pos (by rw [hf]; simp), hf, HRE2.out])
        have HWR : Hid (IntKind.i64.wrap ((i : Int) + 1) = (i : Int) + 1) := by unfold Hid; rw [IntWalk.i64_in _ (by omega)]
        have HRE1 := Lib.hid (fun W (h : Below w4.heap.size w4 W) => (two_cells ((h.block g (heap_lt HRD4.out)).trans HRD4.out)).2.1)
        have HZR := Lib.hid HRES4.out
        have HBWR := Lib.hid HBEL4.out
        have hks := keys_two (new_at w4 (.cells #[.int .i64 3, .string cmdS, .int .i64 x, .int .i64 e', .string fieldS, .int .i64 ((i : Int) + 1)] 53) rfl)
        have HKS := Lib.hid (show KeysAt (w4.alloc (.cells #[.int .i64 3, .string cmdS, .int .i64 x, .int .i64 e', .string fieldS, .int .i64 ((i : Int) + 1)] 53)).drew _ _ from hks)
        clear hbad hks
        go_wp2_with fail
        have HDR := Lib.hid (show Below w4.heap.size w4 w4.drew from below_drewN (Below.refl _ _) 1)
        have HDA := Lib.hid (show Below w4.heap.size w4 (w4.alloc (.cells #[.int .i64 3, .string cmdS, .int .i64 x, .int .i64 e', .string fieldS, .int .i64 ((i : Int) + 1)] 53)).drew from ((Below.refl _ w4).alloc (Nat.le_refl _) _).drew)
        have HBF := Lib.hid (HBWR.out.trans (HDA.out.mono HBWR.out.size))
        refine wp_region_N (S1 := fun W => Below w4.heap.size w4 W) (S2 := fun _ => True) (N := fun _ => false) (by kernel_rfl) ?_
        change wpAnyN _ _ _ _ _ _ _ 12 (Array.replicate 12 false) _ _
        refine wpAnyN_take false (i := 0) (v := .agg #[.int .i64 0, .int .i64 0, .int .i64 0, .int .i64 0, .int .i64 0, .int .i64 0, .int .i64 0, .int .i64 0]) rfl (by kernel_rfl) (by kernel_rfl) (by kernel_rfl) (fun _ _ _ h => h) (.inl ⟨by kernel_rfl, fun W hS => ?_⟩) ⟨HDR.out, fun h => by cases h⟩ ?_
        · simp [execOp, Act.eval, go_sem]
        refine wpAnyN_take false (i := 1) (v := .pointer (some ⟨w.heap.size + 1, 0, none⟩)) rfl (by kernel_rfl) (by kernel_rfl) (by kernel_rfl) (fun _ _ _ h => h) (.inl ⟨by kernel_rfl, fun W hS => ?_⟩) ⟨HDR.out, fun h => by cases h⟩ ?_
        · simp [execOp, Act.eval, Act.put, go_sem]
        refine wpAnyN_take false (i := 2) (v := .int .i64 x) rfl (by kernel_rfl) (by kernel_rfl) (by kernel_rfl) (fun _ _ _ h => h) (.inl ⟨by kernel_rfl, fun W hS => ?_⟩) ⟨HDR.out, fun h => by cases h⟩ ?_
        · simp [execOp, Act.eval, Act.put, go_sem, show W.cell? ⟨w.heap.size + 1, 0, none⟩ = some (.int .i64 x) from HCE.out W hS.1]
        refine wpAnyN_take false (i := 3) (v := .agg #[.int .i64 3, .string cmdS, .int .i64 x]) rfl (by kernel_rfl) (by kernel_rfl) (by kernel_rfl) (fun _ _ _ h => h) (.inl ⟨by kernel_rfl, fun W hS => ?_⟩) ⟨HDR.out, fun h => by cases h⟩ ?_
        · simp [execOp, Act.eval, Act.put, go_sem, cmdS]
        refine wpAnyN_take false (i := 4) (v := .pointer (some ⟨g, 1, none⟩)) rfl (by kernel_rfl) (by kernel_rfl) (by kernel_rfl) (fun _ _ _ h => h) (.inl ⟨by kernel_rfl, fun W hS => ?_⟩) ⟨HDR.out, fun h => by cases h⟩ ?_
        · simp [execOp, Act.eval, Act.put, go_sem]
        refine wpAnyN_take false (i := 5) (v := .int .i64 e') rfl (by kernel_rfl) (by kernel_rfl) (by kernel_rfl) (fun _ _ _ h => h) (.inl ⟨by kernel_rfl, fun W hS => ?_⟩) ⟨HDR.out, fun h => by cases h⟩ ?_
        · simp [execOp, Act.eval, Act.put, go_sem, show W.cell? ⟨g, 1, none⟩ = some (.int .i64 e') from HRE1.out W hS.1]
        refine wpAnyN_take false (i := 6) (v := .int .i64 i) rfl (by kernel_rfl) (by kernel_rfl) (by kernel_rfl) (fun _ _ _ h => h) (.inl ⟨by kernel_rfl, fun W hS => ?_⟩) ⟨HDR.out, fun h => by cases h⟩ ?_
        · simp [execOp, Act.eval, Act.put, go_sem]
        refine wpAnyN_take false (i := 7) (v := .int .i64 ((i : Int) + 1)) rfl (by kernel_rfl) (by kernel_rfl) (by kernel_rfl) (fun _ _ _ h => h) (.inl ⟨by kernel_rfl, fun W hS => ?_⟩) ⟨HDR.out, fun h => by cases h⟩ ?_
        · simp [execOp, Act.eval, Act.put, go_sem, HWR.out]
        refine wpAnyN_take false (i := 8) (v := .agg #[.int .i64 e', .string fieldS, .int .i64 ((i : Int) + 1)]) rfl (by kernel_rfl) (by kernel_rfl) (by kernel_rfl) (fun _ _ _ h => h) (.inl ⟨by kernel_rfl, fun W hS => ?_⟩) ⟨HDR.out, fun h => by cases h⟩ ?_
        · simp [execOp, Act.eval, Act.put, go_sem, fieldS]
        obtain ⟨z0, z1, z2, z3, z4, z5, z6, z7⟩ := HZR.out.eight
        have fz := HZR.out.frozen
        have hwlt := HZR.out.lt
        refine wpAnyN_two (i := 9) (j := 10) (by kernel_rfl) rfl rfl (by kernel_rfl) (by kernel_rfl) ?_ ?_
        · intro K' hK
          try simp only [Act.put]
          go_simp
          refine hK.out _ _ HDA.out (fun h => absurd h (by decide)) ?_
          refine wpAnyN_step (i := 10) (by kernel_rfl) rfl (by kernel_rfl) ?_
          intro K' hK
          try simp only [Act.put]
          go_simp
          rw [zero_store HZR.out]
          refine hK.out _ _ HDA.out (fun h => absurd h (by decide)) ?_
          refine wpAnyN_step (i := 11) (by kernel_rfl) rfl (by kernel_rfl) ?_
          intro K' hK
          try simp only [Act.put]
          go_simp
          refine hK.out _ _ HDA.out (fun h => absurd h (by decide)) ?_
          refine wpAnyN_done (by kernel_rfl) ?_
          try simp only [Act.put]
          try go_simp
          repeat go_step
          refine bodyPost_ret (v := .tuple #[.agg (cmdA zeroC), _]) (results_row_tmp2 rfl _ _ w.heap.size _ _ _ _ rfl (HZR.out.keep HDA.out) Tryd.underlying23 rfl (Tryd.sizeCmd _) _ rfl) rfl ?_
          exact ⟨_, by rw [HDT.out], by rw [HDT.out]; exact HKS.out, HBF.out⟩
        · intro K' hK
          try simp only [Act.put]
          go_simp
          rw [zero_store HZR.out]
          refine hK.out _ _ HDR.out (fun h => absurd h (by decide)) ?_
          refine wpAnyN_step (i := 9) (by kernel_rfl) rfl (by kernel_rfl) ?_
          intro K' hK
          try simp only [Act.put]
          go_simp
          refine hK.out _ _ HDA.out (fun h => absurd h (by decide)) ?_
          refine wpAnyN_step (i := 11) (by kernel_rfl) rfl (by kernel_rfl) ?_
          intro K' hK
          try simp only [Act.put]
          go_simp
          refine hK.out _ _ HDA.out (fun h => absurd h (by decide)) ?_
          refine wpAnyN_done (by kernel_rfl) ?_
          try simp only [Act.put]
          try go_simp
          repeat go_step
          refine bodyPost_ret (v := .tuple #[.agg (cmdA zeroC), _]) (results_row_tmp2 rfl _ _ w.heap.size _ _ _ _ rfl (HZR.out.keep HDA.out) Tryd.underlying23 rfl (Tryd.sizeCmd _) _ rfl) rfl ?_
          exact ⟨_, by rw [HDT.out], by rw [HDT.out]; exact HKS.out, HBF.out⟩
    · have hiL : i = fs.length := by omega
      have hiz : ¬ (i : Int) < (fs.length : Int) := by omega
      obtain ⟨hres, hcmd, ⟨v, hrd, hby⟩, he0, hall, hbel, hle⟩ := HI.out
      have hd0 := rdT_op (fieldsT_lt HFS.out) (opC x) r i (by omega)
      have hdt : decodeT (x :: r) = if 0 < (rdT fs (opC x) r i).2.1.length then (zeroC, [(3, cmdS, (x : Int)), (4, fieldS, (fs.length : Int))]) else ((rdT fs (opC x) r i).1, []) := by
        have hf := firstK_none (E := rdE fs (opC x) r) (n := fs.length) (fun k hk => hall k (by omega))
        unfold decodeT
        simp only
        rw [HFS.out]
        simp only
        rw [if_neg (by rw [hf]; simp), ← hiL]
      generalize rdT fs (opC x) r i = T at *
      obtain ⟨d, rest, e0⟩ := T
      simp only at hcmd hby he0 hle hd0 hdt
      have hd1 : d 0 = (x : Int) := hd0
      obtain ⟨A2, c2, rfl, _⟩ := hby
      obtain ⟨r0, r1, _, _⟩ := two_cells hrd
      have HZR := Lib.hid hres
      have HBWR := Lib.hid hbel
      have HCM := Lib.hid hcmd
      have HCE := Lib.hid (fun W (h : Below wr.heap.size wr W) => ((hcmd.keep h).cell (j := 0) (by decide)).trans (by rw [hd1] : some (Value.int .i64 (d 0)) = some (.int .i64 x)))
      clear hiL hres hcmd hrd he0 hall hbel hd0 hlt
      by_cases hrest : 0 < rest.length
      · have HDT := Lib.hid (show decodeT (x :: r) = (zeroC, [(3, cmdS, (x : Int)), (4, fieldS, (fs.length : Int))]) by rw [hdt, if_pos hrest])
        have hpz : (0 : Int) < (rest.length : Int) := by omega
        have hks := keys_two (new_at wr (.cells #[.int .i64 3, .string cmdS, .int .i64 x, .int .i64 4, .string fieldS, .int .i64 (fs.length : Int)] 53) rfl)
        have HKS := Lib.hid (show KeysAt (wr.alloc (.cells #[.int .i64 3, .string cmdS, .int .i64 x, .int .i64 4, .string fieldS, .int .i64 (fs.length : Int)] 53)).drew _ _ from hks)
        clear hdt hks hd1
        go_wp2_with fail
        have HDR := Lib.hid (show Below wr.heap.size wr wr.drew from below_drewN (Below.refl _ _) 1)
        have HDA := Lib.hid (show Below wr.heap.size wr (wr.alloc (.cells #[.int .i64 3, .string cmdS, .int .i64 x, .int .i64 4, .string fieldS, .int .i64 (fs.length : Int)] 53)).drew from ((Below.refl _ wr).alloc (Nat.le_refl _) _).drew)
        have HBF := Lib.hid (HBWR.out.trans (HDA.out.mono HBWR.out.size))
        refine wp_region_N (S1 := fun W => Below wr.heap.size wr W) (S2 := fun _ => True) (N := fun _ => false) (by kernel_rfl) ?_
        change wpAnyN _ _ _ _ _ _ _ 10 (Array.replicate 10 false) _ _
        refine wpAnyN_take false (i := 0) (v := .agg #[.int .i64 0, .int .i64 0, .int .i64 0, .int .i64 0, .int .i64 0, .int .i64 0, .int .i64 0, .int .i64 0]) rfl (by kernel_rfl) (by kernel_rfl) (by kernel_rfl) (fun _ _ _ h => h) (.inl ⟨by kernel_rfl, fun W hS => ?_⟩) ⟨HDR.out, fun h => by cases h⟩ ?_
        · simp [execOp, Act.eval, go_sem]
        refine wpAnyN_take false (i := 1) (v := .pointer (some ⟨w.heap.size + 1, 0, none⟩)) rfl (by kernel_rfl) (by kernel_rfl) (by kernel_rfl) (fun _ _ _ h => h) (.inl ⟨by kernel_rfl, fun W hS => ?_⟩) ⟨HDR.out, fun h => by cases h⟩ ?_
        · simp [execOp, Act.eval, Act.put, go_sem]
        refine wpAnyN_take false (i := 2) (v := .int .i64 x) rfl (by kernel_rfl) (by kernel_rfl) (by kernel_rfl) (fun _ _ _ h => h) (.inl ⟨by kernel_rfl, fun W hS => ?_⟩) ⟨HDR.out, fun h => by cases h⟩ ?_
        · simp [execOp, Act.eval, Act.put, go_sem, show W.cell? ⟨w.heap.size + 1, 0, none⟩ = some (.int .i64 x) from HCE.out W hS.1]
        refine wpAnyN_take false (i := 3) (v := .agg #[.int .i64 3, .string cmdS, .int .i64 x]) rfl (by kernel_rfl) (by kernel_rfl) (by kernel_rfl) (fun _ _ _ h => h) (.inl ⟨by kernel_rfl, fun W hS => ?_⟩) ⟨HDR.out, fun h => by cases h⟩ ?_
        · simp [execOp, Act.eval, Act.put, go_sem, cmdS]
        refine wpAnyN_take false (i := 4) (v := .string S) rfl (by kernel_rfl) (by kernel_rfl) (by kernel_rfl) (fun _ _ _ h => h) (.inl ⟨by kernel_rfl, fun W hS => ?_⟩) ⟨HDR.out, fun h => by cases h⟩ ?_
        · simp [execOp, Act.eval, Act.put, go_sem]
        refine wpAnyN_take false (i := 5) (v := .int .i64 (fs.length : Int)) rfl (by kernel_rfl) (by kernel_rfl) (by kernel_rfl) (fun _ _ _ h => h) (.inl ⟨by kernel_rfl, fun W hS => ?_⟩) ⟨HDR.out, fun h => by cases h⟩ ?_
        · simp [execOp, Act.eval, Act.put, go_sem, HSZ.out]
        refine wpAnyN_take false (i := 6) (v := .agg #[.int .i64 4, .string fieldS, .int .i64 (fs.length : Int)]) rfl (by kernel_rfl) (by kernel_rfl) (by kernel_rfl) (fun _ _ _ h => h) (.inl ⟨by kernel_rfl, fun W hS => ?_⟩) ⟨HDR.out, fun h => by cases h⟩ ?_
        · simp [execOp, Act.eval, Act.put, go_sem, fieldS]
        obtain ⟨z0, z1, z2, z3, z4, z5, z6, z7⟩ := HZR.out.eight
        have fz := HZR.out.frozen
        have hwlt := HZR.out.lt
        refine wpAnyN_two (i := 7) (j := 8) (by kernel_rfl) rfl rfl (by kernel_rfl) (by kernel_rfl) ?_ ?_
        · intro K' hK
          try simp only [Act.put]
          go_simp
          refine hK.out _ _ HDA.out (fun h => absurd h (by decide)) ?_
          refine wpAnyN_step (i := 8) (by kernel_rfl) rfl (by kernel_rfl) ?_
          intro K' hK
          try simp only [Act.put]
          go_simp
          rw [zero_store HZR.out]
          refine hK.out _ _ HDA.out (fun h => absurd h (by decide)) ?_
          refine wpAnyN_step (i := 9) (by kernel_rfl) rfl (by kernel_rfl) ?_
          intro K' hK
          try simp only [Act.put]
          go_simp
          refine hK.out _ _ HDA.out (fun h => absurd h (by decide)) ?_
          refine wpAnyN_done (by kernel_rfl) ?_
          try simp only [Act.put]
          try go_simp
          repeat go_step
          refine bodyPost_ret (v := .tuple #[.agg (cmdA zeroC), _]) (results_row_tmp2 rfl _ _ w.heap.size _ _ _ _ rfl (HZR.out.keep HDA.out) Tryd.underlying23 rfl (Tryd.sizeCmd _) _ rfl) rfl ?_
          exact ⟨_, by rw [HDT.out], by rw [HDT.out]; exact HKS.out, HBF.out⟩
        · intro K' hK
          try simp only [Act.put]
          go_simp
          rw [zero_store HZR.out]
          refine hK.out _ _ HDR.out (fun h => absurd h (by decide)) ?_
          refine wpAnyN_step (i := 7) (by kernel_rfl) rfl (by kernel_rfl) ?_
          intro K' hK
          try simp only [Act.put]
          go_simp
          refine hK.out _ _ HDA.out (fun h => absurd h (by decide)) ?_
          refine wpAnyN_step (i := 9) (by kernel_rfl) rfl (by kernel_rfl) ?_
          intro K' hK
          try simp only [Act.put]
          go_simp
          refine hK.out _ _ HDA.out (fun h => absurd h (by decide)) ?_
          refine wpAnyN_done (by kernel_rfl) ?_
          try simp only [Act.put]
          try go_simp
          repeat go_step
          refine bodyPost_ret (v := .tuple #[.agg (cmdA zeroC), _]) (results_row_tmp2 rfl _ _ w.heap.size _ _ _ _ rfl (HZR.out.keep HDA.out) Tryd.underlying23 rfl (Tryd.sizeCmd _) _ rfl) rfl ?_
          exact ⟨_, by rw [HDT.out], by rw [HDT.out]; exact HKS.out, HBF.out⟩
      · have HDT := Lib.hid (show decodeT (x :: r) = (d, []) by rw [hdt, if_neg hrest])
        have hpz : ¬ (0 : Int) < (rest.length : Int) := by omega
        have HD := Lib.hid (HZR.out.all d)
        have HBB := Lib.hid (below_all HBWR.out (Nat.le_refl _) d)
        obtain ⟨z0, z1, z2, z3, z4, z5, z6, z7⟩ := HZR.out.eight
        obtain ⟨d0, d1, d2, d3, d4, d5, d6, d7⟩ := HCM.out.eight
        have fz := HZR.out.frozen
        clear hdt hd1
        repeat go_step
        refine bodyPost_ret (v := .tuple #[.agg (cmdA d), _]) (results_row_tmp2 rfl _ _ w.heap.size _ _ _ _ rfl HD.out Tryd.underlying23 rfl (Tryd.sizeCmd _) _ rfl) rfl ?_
        exact ⟨.slice none 0 0, by rw [HDT.out]; rfl, by rw [HDT.out]; exact KeysAt.nil _, HBB.out⟩

theorem refDecode_any (v : Value) (bs : List Nat) (w : World) (hv : BytesAt w v bs) (hl : bs.length ≤ 100000) :
    Calls Tryd.prog 17 #[v] w (RefDecP bs w) := by
  have hv0 := hv
  obtain ⟨A, c, rfl, h2, h3, h4, h5, h6⟩ := hv
  cases bs with
  | nil => exact refDecode_nil A c w
  | cons x r =>
    obtain ⟨b, off, rfl, _⟩ := h6 (by simp)
    cases hfs : fieldsT (x : Int) with
    | none => exact refDecode_none b off c x r w hv0 hfs
    | some fs =>
      have hl' : r.length ≤ 100000 := by simp at hl; omega
      by_cases hc1 : c = 1
      · exact refDecode_end b off c x r w hv0 fs hfs hl' hc1
      · exact refDecode_more b off c x r w hv0 fs hfs hl' hc1
end Go.Proofs.YtnddojngbolbfaaDoor
