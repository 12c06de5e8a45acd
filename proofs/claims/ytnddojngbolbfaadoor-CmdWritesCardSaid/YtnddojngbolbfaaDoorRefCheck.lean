/-
  The document's Check: the links of what is wrong with a command.
  Conditions: none.
-/
import Derived.Test.YtnddojngbolbfaaDoorRefSet
import Derived.Test.YtnddojngbolbfaaDoorOrders
import Derived.Test.YtnddojngbolbfaaDoorRef
set_option linter.unusedVariables false
namespace Go.Proofs.YtnddojngbolbfaaDoor
open Go.RowKit

/-- A slice that reads as links by their keys. -/
def KeysAt (W : World) (v : Value) (ks : List LKey) : Prop :=
  ∃ A c, v = .slice A ks.length c ∧ ks.length ≤ c ∧ (0 < ks.length → ∃ b, A = some ⟨b, 0, none⟩ ∧ b < W.heap.size ∧ ∀ (j : Nat) (k : LKey), ks[j]? = some k →
    W.cell? ⟨b, j * 3, none⟩ = some (.int .i64 k.1) ∧ W.cell? ⟨b, j * 3 + 1, none⟩ = some (.string k.2.1) ∧ W.cell? ⟨b, j * 3 + 2, none⟩ = some (.int .i64 k.2.2))
theorem KeysAt.nil (W : World) : KeysAt W (.slice none 0 0) [] := ⟨none, 0, rfl, Nat.le_refl _, fun h => absurd h (by decide)⟩
theorem KeysAt.keep {W W' : World} {v : Value} {ks : List LKey} (h : KeysAt W v ks) (hb : Below W.heap.size W W') : KeysAt W' v ks := by
  obtain ⟨A, c, h1, h2, h3⟩ := h
  refine ⟨A, c, h1, h2, fun hp => ?_⟩
  obtain ⟨b, e, hlt, hc⟩ := h3 hp
  refine ⟨b, e, Nat.lt_of_lt_of_le hlt hb.size, fun j k hk => ?_⟩
  obtain ⟨c0, c1, c2⟩ := hc j k hk
  exact ⟨(hb.cell (p := ⟨b, j * 3, none⟩) hlt).trans c0, (hb.cell (p := ⟨b, j * 3 + 1, none⟩) hlt).trans c1, (hb.cell (p := ⟨b, j * 3 + 2, none⟩) hlt).trans c2⟩
theorem keys_one {W : World} {g : Nat} {a b : Int} {s : ByteArray} {T : TypeId} (h : W.heap[g]? = some (.cells #[.int .i64 a, .string s, .int .i64 b] T (0, 0))) : KeysAt W (.slice (some ⟨g, 0, none⟩) 1 1) [(a, s, b)] := by
  refine ⟨_, 1, rfl, Nat.le_refl _, fun _ => ⟨g, rfl, heap_lt h, fun j k hk => ?_⟩⟩
  rcases j with _ | j
  · cases hk
    refine ⟨?_, ?_, ?_⟩ <;> simp [World.cell?, h]
  · simp at hk
theorem keys_two {W : World} {g : Nat} {a b a' b' : Int} {s s' : ByteArray} {T : TypeId} (h : W.heap[g]? = some (.cells #[.int .i64 a, .string s, .int .i64 b, .int .i64 a', .string s', .int .i64 b'] T (0, 0))) : KeysAt W (.slice (some ⟨g, 0, none⟩) 2 2) [(a, s, b), (a', s', b')] := by
  refine ⟨_, 2, rfl, Nat.le_refl _, fun _ => ⟨g, rfl, heap_lt h, fun j k hk => ?_⟩⟩
  rcases j with _ | _ | j
  · cases hk
    refine ⟨?_, ?_, ?_⟩ <;> simp [World.cell?, h]
  · cases hk
    refine ⟨?_, ?_, ?_⟩ <;> simp [World.cell?, h]
  · simp at hk
theorem new_at (W : World) (o : Obj) {g : Nat} (h : W.heap.size = g) : (W.alloc o).heap[g]? = some o := by
  rw [← h]; exact World.alloc_heap_new W o
/-- What a call answers that makes links. -/
def RetK (ks : List LKey) (w : World) (e : Ending) (w' : World) : Prop := ∃ v, e = .returned v ∧ KeysAt w' v ks ∧ Below w.heap.size w w'

theorem nameU_toNat (j : Nat) : (nameU j).toNat = nameN j := by
  have : nameN j < 256 := by unfold nameN; repeat' split
                             all_goals decide
  unfold nameU
  simp [Nat.toUInt8]
  omega
theorem nameS_size {op : Int} {fs : List Nat} (h : fieldsT op = some fs) : (nameS op).size = fs.length := by
  unfold nameS
  rw [h]
  show (fs.map nameU).toArray.size = _
  simp
theorem nameS_get {op : Int} {fs : List Nat} (h : fieldsT op = some fs) {i j : Nat} (hi : fs[i]? = some j) (hlt : i < (nameS op).size) : ((nameS op)[i]'hlt).toNat = nameN j := by
  have key : ∀ (S : ByteArray) (hS : S = ⟨(fs.map nameU).toArray⟩) (hl : i < S.size), (S[i]'hl).toNat = nameN j := by
    rintro S rfl hl
    obtain ⟨h1, h2⟩ := List.getElem?_eq_some_iff.1 hi
    show ((fs.map nameU).toArray[i]'hl).toNat = _
    simp [h2, nameU_toNat]
  exact key _ (by unfold nameS; rw [h]) hlt
theorem nameS_x {op : Int} {fs : List Nat} (h : fieldsT op = some fs) : ((nameS op).toList == [120]) = false := by
  have hm := fieldsT_some h
  have key : ∀ k ∈ opsT, ((nameS k).toList == [120]) = false := by decide +kernel
  exact key op hm

theorem onlyC_nil (c : Cmd8) : onlyC c [] = opC (c 0) := by
  funext k
  unfold onlyC opC
  by_cases h : k = 0 <;> simp [h]
theorem onlyC_step {c : Cmd8} {fs : List Nat} {i j : Nat} (h : fs[i]? = some j) : updC (onlyC c (fs.take i)) j (c j) = onlyC c (fs.take (i + 1)) := by
  funext k
  rw [List.take_add_one, h]
  unfold updC onlyC
  by_cases e : k = j
  · subst e
    rw [if_pos rfl, if_pos (by simp)]
  · rw [if_neg e]
    by_cases hm : k = 0 ∨ k ∈ fs.take i
    · rw [if_pos hm, if_pos (by rcases hm with h | h <;> simp [h])]
    · have h1 : ¬ k = 0 := fun x => hm (.inl x)
      have h2 : ¬ k ∈ fs.take i := fun x => hm (.inr x)
      rw [if_neg hm, if_neg (by simp [h1, h2, e])]
theorem cmd_other {W : World} {n b : Nat} {c : Cmd8} (h : CmdAt W n c) (hne : n ≠ b) (d : Cmd8) :
    CmdAt ((((((((W.setCell ⟨b, 0, none⟩ (.int .i64 (d 0))).setCell ⟨b, 1, none⟩ (.int .i64 (d 1))).setCell ⟨b, 2, none⟩ (.int .i64 (d 2))).setCell ⟨b, 3, none⟩ (.int .i64 (d 3))).setCell ⟨b, 4, none⟩ (.int .i64 (d 4))).setCell ⟨b, 5, none⟩ (.int .i64 (d 5))).setCell ⟨b, 6, none⟩ (.int .i64 (d 6))).setCell ⟨b, 7, none⟩ (.int .i64 (d 7))) n c :=
  (((((((h.elsewhere hne _).elsewhere hne _).elsewhere hne _).elsewhere hne _).elsewhere hne _).elsewhere hne _).elsewhere hne _).elsewhere hne _
theorem ex_at' {xs : List Nat} {k : Nat} (h : k < xs.length) : ∃ x, xs[k]? = some x := ⟨xs[k], List.getElem?_eq_getElem h⟩

structure RcI (n : Nat) (c : Cmd8) (fs : List Nat) (w : World) (i : Nat) (W : World) : Prop where
  cmd : CmdAt W n c
  only : CmdAt W (n + 1) (onlyC c (fs.take i))
  below : Below n w W

set_option maxRecDepth 100000 in
set_option maxHeartbeats 4000000 in
theorem refCheck_none (c : Cmd8) (w : World) (hfs : fieldsT (c 0) = none) :
    Calls Tryd.prog 11 #[.agg (cmdA c)] w (RetK [(1, cmdS, c 0)] w) := by
  have b1 : Below w.heap.size w (w.alloc (.cells (cmdA c) 23)) := (Below.refl _ _).alloc (Nat.le_refl _) _
  have hc : CmdAt (w.alloc (.cells (cmdA c) 23)) w.heap.size c := World.alloc_heap_new _ _
  have HN := Lib.hid (names_none (c 0) (w.alloc (.cells (cmdA c) 23)) hfs)
  have h0 := hc.cell (j := 0) (by decide)
  have HK := Lib.hid (keys_one (new_at (w.alloc (.cells (cmdA c) 23)) (.cells #[.int .i64 1, .string cmdS, .int .i64 (c 0)] 53) (World.size_alloc _ _)))
  have HB := Lib.hid (b1.alloc (by simp) (.cells #[.int .i64 1, .string cmdS, .int .i64 (c 0)] 53))
  clear b1 hc hfs
  go_enter Tryd.func11, Tryd.ntmps11
  go_wp2_with fail
  refine HN.out.mono ?_
  rintro e w1 ⟨rfl, rfl⟩
  go_wp2
  go_ret
  exact ⟨_, rfl, HK.out, HB.out⟩

set_option maxRecDepth 100000 in
set_option maxHeartbeats 4000000 in
theorem refCheck_some (c : Cmd8) (w : World) (fs : List Nat) (hfs : fieldsT (c 0) = some fs) :
    Calls Tryd.prog 11 #[.agg (cmdA c)] w (RetK (checkK c) w) := by
  have b1 : Below w.heap.size w (w.alloc (.cells (cmdA c) 23)) := (Below.refl _ _).alloc (Nat.le_refl _) _
  have hc : CmdAt (w.alloc (.cells (cmdA c) 23)) w.heap.size c := World.alloc_heap_new _ _
  have HN := Lib.hid (names_any (c 0) (w.alloc (.cells (cmdA c) 23)))
  have HC := Lib.hid hc
  have HB := Lib.hid b1
  have h0 := hc.cell (j := 0) (by decide)
  have hx := nameS_x hfs
  have HSZ := Lib.hid (nameS_size hfs)
  have HGET := Lib.hid (fun i j h => nameS_get hfs (i := i) (j := j) h)
  generalize nameS (c 0) = S at *
  have HFS := Lib.hid hfs
  clear b1 hc hfs
  go_enter Tryd.func11, Tryd.ntmps11
  go_wp2_with fail
  refine HN.out.mono ?_
  rintro e w1 ⟨rfl, rfl⟩
  go_upto_region 5 with fail
  have hb2 := HB.out.alloc (by simp) (.cells #[.int .i64 (c 0), .int .i64 0, .int .i64 0, .int .i64 0, .int .i64 0, .int .i64 0, .int .i64 0, .int .i64 0] 23)
  have hc2 := HC.out.keep ((Below.refl _ (w.alloc (.cells (cmdA c) 23))).alloc (Nat.le_refl _) (.cells #[.int .i64 (c 0), .int .i64 0, .int .i64 0, .int .i64 0, .int .i64 0, .int .i64 0, .int .i64 0, .int .i64 0] 23))
  have ho2 : CmdAt _ (w.heap.size + 1) (opC (c 0)) := new_at (w.alloc (.cells (cmdA c) 23)) (.cells #[.int .i64 (c 0), .int .i64 0, .int .i64 0, .int .i64 0, .int .i64 0, .int .i64 0, .int .i64 0, .int .i64 0] 23) (World.size_alloc _ _)
  have HI0 := Lib.hid (show RcI w.heap.size c fs w 0 _ from ⟨hc2, by rw [List.take_zero, onlyC_nil]; exact ho2, hb2⟩)
  generalize (w.alloc (.cells (cmdA c) 23)).alloc (.cells #[.int .i64 (c 0), .int .i64 0, .int .i64 0, .int .i64 0, .int .i64 0, .int .i64 0, .int .i64 0, .int .i64 0] 23) = w1 at *
  have hlen := fieldsT_len HFS.out
  clear h0 hx hb2 hc2 ho2
  go_wp2_with fail
  go_loopg [5, 6] fs.length (fun g s5 s6 wr => ∃ i : Nat, g = fs.length - i ∧ i ≤ fs.length ∧ s5 = .int .i64 i ∧ Hid (RcI w.heap.size c fs w i wr) ∧ Hid (∀ k, k < i → wrongN (c (atF fs k)) = 0))
  case atStart => exact ⟨0, rfl, Nat.zero_le _, rfl, HI0.out, fun k hk => absurd hk (Nat.not_lt_zero _)⟩
  case round =>
    obtain ⟨i, hg, hi, rfl, hI, hall⟩ := hrel
    have HG0 := Lib.hid hg
    have HI := Lib.hid hI.out
    have HALL := Lib.hid hall.out
    have hsz := HSZ.out
    clear hg hI hall
    have HE := Lib.hid (fun W (h : Below wr.heap.size wr W) => (HI.out.cmd.keep h).eight)
    by_cases hlt : i < fs.length
    · obtain ⟨j, hj⟩ := ex_at' hlt
      have hjb := fieldsT_lt HFS.out j (List.mem_of_getElem? hj)
      have HJ := Lib.hid hj
      have HIS : Hid ((i : Int) < (S.size : Int)) := by unfold Hid; omega
      have HG := Lib.hid (fun h => HGET.out i j hj h)
      have HAT := Lib.hid (atF_eq hj)
      have HGT := Lib.hid (get_any c j hjb.1 hjb.2 wr.drew)
      have hiz : (i : Int) < (fs.length : Int) := by omega
      clear hj
      go_wp2_with fail
      have HDR := Lib.hid (show Below wr.heap.size wr wr.drew from below_drewN (Below.refl _ _) 1)
      refine wp_region_N (S1 := fun W => Below wr.heap.size wr W) (S2 := fun _ => True) (N := fun _ => false) (by kernel_rfl) ?_
      change wpAnyN _ _ _ _ _ _ _ 6 (Array.replicate 6 false) _ _
      refine wpAnyN_take false (i := 0) (v := .agg (cmdA c)) rfl (by kernel_rfl) (by kernel_rfl) (by kernel_rfl) (fun _ _ _ h => h) (.inl ⟨by kernel_rfl, fun W hS => ?_⟩) ⟨HDR.out, fun h => by cases h⟩ ?_
      · obtain ⟨d0, d1, d2, d3, d4, d5, d6, d7⟩ := HE.out W hS.1
        simp [execOp, Act.eval, go_sem, cmdA, d0, d1, d2, d3, d4, d5, d6, d7]
      refine wpAnyN_take false (i := 1) (v := .string S) rfl (by kernel_rfl) (by kernel_rfl) (by kernel_rfl) (fun _ _ _ h => h) (.inl ⟨by kernel_rfl, fun W hS => ?_⟩) ⟨HDR.out, fun h => by cases h⟩ ?_
      · simp [execOp, Act.eval, Act.put, go_sem]
      refine wpAnyN_take false (i := 2) (v := .int .i64 i) rfl (by kernel_rfl) (by kernel_rfl) (by kernel_rfl) (fun _ _ _ h => h) (.inl ⟨by kernel_rfl, fun W hS => ?_⟩) ⟨HDR.out, fun h => by cases h⟩ ?_
      · simp [execOp, Act.eval, Act.put, go_sem]
      refine wpAnyN_take false (i := 3) (v := .int .u8 (nameN j)) rfl (by kernel_rfl) (by kernel_rfl) (by kernel_rfl) (fun _ _ _ h => h) (.inl ⟨by kernel_rfl, fun W hS => ?_⟩) ⟨HDR.out, fun h => by cases h⟩ ?_
      · simp [execOp, Act.eval, Act.put, go_sem, HIS.out, HG.out]
      refine wpAnyN_step (i := 4) (by kernel_rfl) rfl (by kernel_rfl) ?_
      intro K' hK
      try simp only [Act.put]
      go_simp
      refine HGT.out.mono ?_
      rintro e w2 ⟨rfl, hb2⟩
      have HB2 := Lib.hid (HDR.out.trans hb2)
      clear hb2
      refine hK.out _ _ HB2.out (fun h => absurd h (by decide)) ?_
      refine wpAnyN_step (i := 5) (by kernel_rfl) rfl (by kernel_rfl) ?_
      intro K' hK
      try simp only [Act.put]
      go_simp
      refine hK.out _ _ HB2.out (fun h => absurd h (by decide)) ?_
      refine wpAnyN_done (by kernel_rfl) ?_
      try simp only [Act.put]
      try go_simp
      have HI2 := Lib.hid (show RcI w.heap.size c fs w i w2 from ⟨HI.out.cmd.keep HB2.out, HI.out.only.keep HB2.out, HI.out.below.trans (HB2.out.mono HI.out.below.size)⟩)
      have k0 := HI2.out.cmd.cell (j := 0) (by decide)
      by_cases hbad : c j < 0 ∨ 2147483647 < c j
      · have HCK := Lib.hid (show checkK c = [(5, cmdS, c 0), (5, fieldS, ((i + 1 : Nat) : Int))] by
          have h5 : wrongN (c (atF fs i)) = 5 := by rw [HAT.out]; exact if_pos hbad
          have hf := firstK_at (E := fun i => wrongN (c (atF fs i))) HALL.out (by rw [h5]; decide) hlt
          unfold checkK
          rw [HFS.out]
          simp only
          rw [if_pos (by rw [hf]; simp), hf, h5])
        have HKS := Lib.hid (keys_two (new_at w2 (.cells #[.int .i64 5, .string cmdS, .int .i64 (c 0), .int .i64 5, .string fieldS, .int .i64 ((i : Int) + 1)] 53) rfl))
        have HBK := Lib.hid (HI2.out.below.alloc HI2.out.below.size (.cells #[.int .i64 5, .string cmdS, .int .i64 (c 0), .int .i64 5, .string fieldS, .int .i64 ((i : Int) + 1)] 53))
        rcases hbad with h1 | h1
        all_goals
          go_wp2
          go_ret
          exact ⟨_, rfl, by rw [HCK.out]; exact HKS.out, HBK.out⟩
      · have h1 : ¬ c j < 0 := fun h => hbad (.inl h)
        have h2 : ¬ 2147483647 < c j := fun h => hbad (.inr h)
        have HA2 := Lib.hid (show ∀ k, k < i + 1 → wrongN (c (atF fs k)) = 0 from fun k hk => by
          rcases Nat.lt_or_ge k i with h | h
          · exact HALL.out k h
          · rw [show k = i by omega, HAT.out]; exact if_neg hbad)
        have HOC := Lib.hid HI2.out.only
        have HUP := Lib.hid (onlyC_step (c := c) HJ.out)
        have HST := Lib.hid (set_any (onlyC c (fs.take i)) j hjb.1 hjb.2 (c j) w2.drew)
        generalize onlyC c (fs.take i) = o at *
        have HOE := Lib.hid (fun W (h : Below w2.heap.size w2 W) => (HOC.out.keep h).eight)
        clear hbad
        go_wp2_with fail
        have HDR := Lib.hid (show Below w2.heap.size w2 w2.drew from below_drewN (Below.refl _ _) 1)
        refine wp_region_N (S1 := fun _ => True) (S2 := fun W => Below w2.heap.size w2 W) (N := fun i => i != 6) (by kernel_rfl) ?_
        change wpAnyN _ _ _ _ _ _ _ 7 (Array.replicate 7 false) _ _
        refine wpAnyN_take true (i := 0) (v := .agg (cmdA o)) rfl (by kernel_rfl) (by kernel_rfl) (by kernel_rfl) (fun _ _ _ h => h) (.inl ⟨by kernel_rfl, fun W hS => ?_⟩) ⟨trivial, fun _ => HDR.out⟩ ?_
        · obtain ⟨d0, d1, d2, d3, d4, d5, d6, d7⟩ := HOE.out W (hS.2 rfl)
          simp [execOp, Act.eval, go_sem, cmdA, d0, d1, d2, d3, d4, d5, d6, d7]
        refine wpAnyN_take false (i := 1) (v := .string S) rfl (by kernel_rfl) (by kernel_rfl) (by kernel_rfl) (fun _ _ _ h => h) (.inl ⟨by kernel_rfl, fun W hS => ?_⟩) ⟨trivial, fun h => by cases h⟩ ?_
        · simp [execOp, Act.eval, Act.put, go_sem]
        refine wpAnyN_take false (i := 2) (v := .int .i64 i) rfl (by kernel_rfl) (by kernel_rfl) (by kernel_rfl) (fun _ _ _ h => h) (.inl ⟨by kernel_rfl, fun W hS => ?_⟩) ⟨trivial, fun h => by cases h⟩ ?_
        · simp [execOp, Act.eval, Act.put, go_sem]
        refine wpAnyN_take false (i := 3) (v := .int .u8 (nameN j)) rfl (by kernel_rfl) (by kernel_rfl) (by kernel_rfl) (fun _ _ _ h => h) (.inl ⟨by kernel_rfl, fun W hS => ?_⟩) ⟨trivial, fun h => by cases h⟩ ?_
        · simp [execOp, Act.eval, Act.put, go_sem, HIS.out, HG.out]
        refine wpAnyN_take false (i := 4) (v := .int .i64 (c j)) rfl (by kernel_rfl) (by kernel_rfl) (by kernel_rfl) (fun _ _ _ h => h) (.inl ⟨by kernel_rfl, fun W hS => ?_⟩) ⟨trivial, fun h => by cases h⟩ ?_
        · simp [execOp, Act.eval, Act.put, go_sem]
        refine wpAnyN_step (i := 5) (by kernel_rfl) rfl (by kernel_rfl) ?_
        intro K' hK
        try simp only [Act.put]
        go_simp
        refine HST.out.mono ?_
        rintro e w3 ⟨rfl, hb3⟩
        have HB3 := Lib.hid (HDR.out.trans hb3)
        clear hb3
        obtain ⟨z0, z1, z2, z3, z4, z5, z6, z7⟩ := HOE.out w3 HB3.out
        have fz := (HOC.out.keep HB3.out).frozen
        refine hK.out _ _ trivial (fun _ _ => HB3.out) ?_
        refine wpAnyN_step (i := 6) (by kernel_rfl) rfl (by kernel_rfl) ?_
        intro K' hK
        try simp only [Act.put]
        simp only [cmdA]; go_simp
        refine hK.out _ _ trivial (fun h => absurd h (by decide)) ?_
        refine wpAnyN_done (by kernel_rfl) ?_
        try simp only [Act.put]
        try go_simp
        have HC3 := Lib.hid (cmd_other (HI2.out.cmd.keep HB3.out) (b := w.heap.size + 1) (by omega) (updC o j (c j)))
        have HO3 := Lib.hid ((HOC.out.keep HB3.out).all (updC o j (c j)))
        have HBW := Lib.hid (below_all (HI2.out.below.trans (HB3.out.mono HI2.out.below.size)) (b := w.heap.size + 1) (by omega) (updC o j (c j)))
        clear z0 z1 z2 z3 z4 z5 z6 z7 fz k0
        go_wp2_with fail
        go_roundg (fs.length - (i + 1))
        case measure => have := HG0.out; omega
        case rel =>
          refine ⟨i + 1, rfl, by omega, by go_num, ⟨HC3.out, ?_, HBW.out⟩, HA2.out⟩
          rw [← HUP.out]
          exact HO3.out
    · have hiL : i = fs.length := by omega
      have hiz : ¬ (i : Int) < (fs.length : Int) := by omega
      have HCK := Lib.hid (show checkK c = if eq8 (onlyC c fs) c then [] else [(1, cmdS, c 0)] by
        have hf := firstK_none (E := fun i => wrongN (c (atF fs i))) (n := fs.length) (fun k hk => HALL.out k (by omega))
        unfold checkK
        rw [HFS.out]
        simp only
        rw [if_neg (by rw [hf]; simp)])
      have hon : CmdAt wr (w.heap.size + 1) (onlyC c fs) := by have := HI.out.only; rwa [hiL, List.take_length] at this
      obtain ⟨q0, q1, q2, q3, q4, q5, q6, q7⟩ := hon.eight
      obtain ⟨d0, d1, d2, d3, d4, d5, d6, d7⟩ := HI.out.cmd.eight
      have HKS := Lib.hid (keys_one (new_at wr (.cells #[.int .i64 1, .string cmdS, .int .i64 (c 0)] 53) rfl))
      have HBK := Lib.hid (HI.out.below.alloc HI.out.below.size (.cells #[.int .i64 1, .string cmdS, .int .i64 (c 0)] 53))
      generalize onlyC c fs = o at *
      clear hiL hlt hon
      go_wp2_with fail
      all_goals clear q0 q1 q2 q3 q4 q5 q6 q7 d0 d1 d2 d3 d4 d5 d6 d7
      all_goals go_ret
      all_goals first
        | (have hqf : eq8 o c = false := by simp [eq8, *]
           exact ⟨_, rfl, by rw [HCK.out, hqf]; exact HKS.out, HBK.out⟩)
        | (have hqt : eq8 o c = true := by simp [eq8, *]
           exact ⟨_, rfl, by rw [HCK.out, hqt]; exact KeysAt.nil _, HI.out.below⟩)
theorem refCheck_any (c : Cmd8) (w : World) : Calls Tryd.prog 11 #[.agg (cmdA c)] w (RetK (checkK c) w) := by
  cases h : fieldsT (c 0) with
  | none =>
    have e : checkK c = [(1, cmdS, c 0)] := by unfold checkK; rw [h]
    rw [e]
    exact refCheck_none c w h
  | some fs => exact refCheck_some c w fs h
end Go.Proofs.YtnddojngbolbfaaDoor
