/-
  The document's Encode of a right command.
  Conditions: the command is right.
-/
import Derived.Test.YtnddojngbolbfaaDoorRefCheck
import Derived.Test.YtnddojngbolbfaaDoorEncode
import Derived.Test.YtnddojngbolbfaaDoorRefNum
set_option linter.unusedVariables false
namespace Go.Proofs.YtnddojngbolbfaaDoor
open Go.RowKit

theorem encs_one (l : List Nat) (n : Nat) : encs (l ++ [n]) = encs l ++ enc n := encs_snoc l n

set_option maxRecDepth 100000 in
set_option maxHeartbeats 4000000 in
theorem refEncode_any (c : Cmd8) (w : World) (hck : checkK c = []) :
    Calls Tryd.prog 15 #[.agg (cmdA c)] w (RetO w.heap.size (encC c) w) := by
  obtain ⟨fs, hfs, hin, _⟩ := right_iff hck
  obtain ⟨i0, hif, hz0, hz1, hz2⟩ := info_parts Tryd.infoByte
  have hop : 1 ≤ c 0 ∧ c 0 ≤ 17 := opsT_byte (fieldsT_some hfs)
  obtain ⟨op, hop0⟩ : ∃ op : Nat, c 0 = (op : Int) := ⟨(c 0).toNat, by omega⟩
  have b1 : Below w.heap.size w (w.alloc (.cells (cmdA c) 23)) := (Below.refl _ _).alloc (Nat.le_refl _) _
  have hc : CmdAt (w.alloc (.cells (cmdA c) 23)) w.heap.size c := World.alloc_heap_new _ _
  have HN := Lib.hid (fun W => names_any (c 0) W)
  have h0 := hc.cell (j := 0) (by decide)
  rw [hop0] at h0
  have HSZ := Lib.hid (nameS_size hfs)
  have HGET := Lib.hid (fun i j h => nameS_get hfs (i := i) (j := j) h)
  generalize nameS (c 0) = S at *
  have HENC := Lib.hid (show encC c = [op] ++ encs (numsC c fs) by unfold encC; rw [hfs]; simp [hop0])
  have HFS := Lib.hid hfs
  have HIN := Lib.hid hin
  have hopw : IntKind.u8.wrap (op : Int) = (op : Int) := by rw [IntKind.wrap_u8]; omega
  have HC := Lib.hid hc
  have HB := Lib.hid b1
  have hlen := fieldsT_len hfs
  have HLIT := Lib.hid (lit_own (w.alloc (.cells (cmdA c) 23)) [op] (fun x h => by obtain rfl := List.mem_singleton.1 h; omega) (by simp) (w.heap.size + 1) (by simp))
  rw [hop0] at HN
  have HOP0 := Lib.hid hop0
  clear b1 hc hfs hin hck hop hop0
  go_enter Tryd.func15, Tryd.ntmps15
  go_upto_region 2 with fail
  have hb2 : Below w.heap.size w ((w.alloc (.cells (cmdA c) 23)).alloc (.cells #[.int .u8 op] 5)) := HB.out.alloc (by simp) _
  have HI0 := Lib.hid (show CmdAt ((w.alloc (.cells (cmdA c) 23)).alloc (.cells #[.int .u8 op] 5)) w.heap.size c from HC.out.keep ((Below.refl _ (w.alloc (.cells (cmdA c) 23))).alloc (Nat.le_refl _) _))
  have HBB := Lib.hid hb2
  have hs0 : (w.alloc (.cells (cmdA c) 23)).heap.size = w.heap.size + 1 := World.size_alloc _ _
  rw [hs0] at HLIT
  have HO0 := Lib.hid (show Own ((w.alloc (.cells (cmdA c) 23)).alloc (.cells #[.int .u8 op] 5)) (w.heap.size + 1) (.slice (some ⟨w.heap.size + 1, 0, none⟩) 1 1) ([op] ++ encs (numsC c (fs.take 0))) from by simpa [bytesV, numsC, encs] using HLIT.out)
  generalize (w.alloc (.cells (cmdA c) 23)).alloc (.cells #[.int .u8 op] 5) = w1 at *
  have k0 : w1.cell? ⟨w.heap.size, 0, none⟩ = some (.int .i64 op) := by rw [HI0.out.cell (j := 0) (by decide), HOP0.out]
  clear h0 hb2
  go_wp2_with fail
  refine (HN.out _).mono ?_
  rintro e w2 ⟨rfl, rfl⟩
  clear k0
  go_wp2_with fail
  go_loopg [3, 5] fs.length (fun g s3 s5 wr => ∃ i : Nat, g = fs.length - i ∧ i ≤ fs.length ∧ s5 = .int .i64 i ∧ Hid (CmdAt wr w.heap.size c) ∧ Hid (Below w.heap.size w wr) ∧ Hid (Own wr (w.heap.size + 1) s3 ([op] ++ encs (numsC c (fs.take i)))))
  case atStart => exact ⟨0, rfl, Nat.zero_le _, rfl, HI0.out, HBB.out, HO0.out⟩
  case round =>
    obtain ⟨i, hg, hi, rfl, hI, hbw, hown⟩ := hrel
    have HG0 := Lib.hid hg
    have HI := Lib.hid hI.out
    have HBW := Lib.hid hbw.out
    have HO := Lib.hid hown.out
    have hsz := HSZ.out
    clear hg hI hbw hown
    by_cases hlt : i < fs.length
    · obtain ⟨j, hj⟩ := ex_at' hlt
      have hjm := List.mem_of_getElem? hj
      have hjb := fieldsT_lt HFS.out j hjm
      have hjr := HIN.out j hjm
      obtain ⟨q, hq⟩ : ∃ q : Nat, c j = (q : Int) := ⟨(c j).toNat, by omega⟩
      have HQ := Lib.hid hq
      have hqt : (c j).toNat = q := by omega
      have HQL := Lib.hid (show q < 18446744073709551616 by omega)
      have HQW : Hid (IntKind.u64.wrap (q : Int) = (q : Int)) := by unfold Hid; rw [IntKind.wrap_u64]; omega
      have HNS := Lib.hid (show [op] ++ encs (numsC c (fs.take (i + 1))) = ([op] ++ encs (numsC c (fs.take i))) ++ enc q by rw [numsC_step hj, hqt, encs_snoc, List.append_assoc])
      have HIS : Hid ((i : Int) < (S.size : Int)) := by unfold Hid; omega
      have HG := Lib.hid (fun h => HGET.out i j hj h)
      have hgt := get_any c j hjb.1 hjb.2 wr.drew
      rw [hq] at hgt
      have HGT := Lib.hid hgt
      have hol : ([op] ++ encs (numsC c (fs.take i))).length ≤ 100 := by
        have h1 := encs_length (numsC c (fs.take i)) (fun n hn => by
          obtain ⟨k, hk, rfl⟩ := List.mem_map.1 hn
          have := HIN.out k (List.mem_of_mem_take hk)
          omega)
        have h2 : (numsC c (fs.take i)).length ≤ 4 := by unfold numsC; rw [List.length_map, List.length_take]; omega
        rw [List.length_append, List.length_singleton]
        omega
      obtain ⟨A, k, hs3⟩ : ∃ A k, u3 = .slice A ([op] ++ encs (numsC c (fs.take i))).length k := by
        rcases HO.out.1.2 with ⟨h1, h2⟩ | ⟨g, cap, _, h1, _⟩
        · exact ⟨none, 0, by rw [h1, h2]⟩
        · exact ⟨_, _, h1⟩
      subst hs3
      generalize hout : [op] ++ encs (numsC c (fs.take i)) = out at *
      generalize hL : out.length = L at *
      have HLO := Lib.hid hL
      have HE := Lib.hid (fun W (h : Below (w.heap.size + 1) wr W) => CmdAt.eight (W := W) (b := w.heap.size) (c := c) ((h.block w.heap.size (by omega)).trans HI.out))
      have hnw : w.heap.size + 1 ≤ wr.heap.size := HI.out.lt
      have HDRW := Lib.hid (show Below wr.heap.size wr wr.drew from below_drewN (Below.refl _ _) 1)
      have hiz : (i : Int) < (fs.length : Int) := by omega
      clear hj hq hqt hgt hout hL hjr
      go_wp2_with fail
      have HDR := Lib.hid (show Below (w.heap.size + 1) wr wr.drew from below_drewN (Below.refl _ _) 1)
      refine wp_region_N (S1 := fun W => Below (w.heap.size + 1) wr W) (S2 := fun _ => True) (N := fun _ => false) (by kernel_rfl) ?_
      change wpAnyN _ _ _ _ _ _ _ 10 (Array.replicate 10 false) _ _
      refine wpAnyN_take false (i := 0) (v := .slice A L k) rfl (by kernel_rfl) (by kernel_rfl) (by kernel_rfl) (fun _ _ _ h => h) (.inl ⟨by kernel_rfl, fun W hS => ?_⟩) ⟨HDR.out, fun h => by cases h⟩ ?_
      · simp [execOp, Act.eval, go_sem]
      refine wpAnyN_take false (i := 1) (v := .agg (cmdA c)) rfl (by kernel_rfl) (by kernel_rfl) (by kernel_rfl) (fun _ _ _ h => h) (.inl ⟨by kernel_rfl, fun W hS => ?_⟩) ⟨HDR.out, fun h => by cases h⟩ ?_
      · obtain ⟨d0, d1, d2, d3, d4, d5, d6, d7⟩ := HE.out W hS.1
        simp [execOp, Act.eval, Act.put, go_sem, cmdA, d0, d1, d2, d3, d4, d5, d6, d7]
      refine wpAnyN_take false (i := 2) (v := .string S) rfl (by kernel_rfl) (by kernel_rfl) (by kernel_rfl) (fun _ _ _ h => h) (.inl ⟨by kernel_rfl, fun W hS => ?_⟩) ⟨HDR.out, fun h => by cases h⟩ ?_
      · simp [execOp, Act.eval, Act.put, go_sem]
      refine wpAnyN_take false (i := 3) (v := .int .i64 i) rfl (by kernel_rfl) (by kernel_rfl) (by kernel_rfl) (fun _ _ _ h => h) (.inl ⟨by kernel_rfl, fun W hS => ?_⟩) ⟨HDR.out, fun h => by cases h⟩ ?_
      · simp [execOp, Act.eval, Act.put, go_sem]
      refine wpAnyN_take false (i := 4) (v := .int .u8 (nameN j)) rfl (by kernel_rfl) (by kernel_rfl) (by kernel_rfl) (fun _ _ _ h => h) (.inl ⟨by kernel_rfl, fun W hS => ?_⟩) ⟨HDR.out, fun h => by cases h⟩ ?_
      · simp [execOp, Act.eval, Act.put, go_sem, HIS.out, HG.out]
      refine wpAnyN_step (i := 5) (by kernel_rfl) rfl (by kernel_rfl) ?_
      intro K' hK
      try simp only [Act.put]
      go_simp
      refine HGT.out.mono ?_
      rintro e w2 ⟨rfl, hb2⟩
      have HB2 := Lib.hid (HDR.out.trans (hb2.mono hnw))
      have HO2 := Lib.hid (HO.out.keep (HDRW.out.trans hb2))
      have hsz2 : wr.heap.size ≤ w2.heap.size := hb2.size
      clear hb2
      refine hK.out _ _ HB2.out (fun h => absurd h (by decide)) ?_
      refine wpAnyN_take false (i := 6) (v := .int .u64 q) rfl (by kernel_rfl) (by kernel_rfl) (by kernel_rfl) (fun _ _ _ h => h) (.inl ⟨by kernel_rfl, fun W hS => ?_⟩) ⟨HB2.out, fun h => by cases h⟩ ?_
      · simp [execOp, Act.eval, go_sem, HQW.out]
      refine wpAnyN_step (i := 7) (by kernel_rfl) rfl (by kernel_rfl) ?_
      intro K' hK
      try simp only [Act.put]
      go_simp
      refine (refNum_any q q w2 (Nat.le_refl _) HQL.out).mono ?_
      rintro e w3 ⟨v3, rfl, ho3, hb3⟩
      have HB3 := Lib.hid (HB2.out.trans (hb3.mono (Nat.le_trans hnw hsz2)))
      have HO3 := Lib.hid (HO2.out.keep hb3)
      have HN3 := Lib.hid ho3.bytes
      have hsz3 : w2.heap.size ≤ w3.heap.size := hb3.size
      clear hb3 ho3
      refine hK.out _ _ HB3.out (fun h => absurd h (by decide)) ?_
      refine wpAnyN_step (i := 8) (by kernel_rfl) rfl (by kernel_rfl) ?_
      intro K' hK
      obtain ⟨B, cc, rfl, g2, g3, g4, g5, g6⟩ := HN3.out
      obtain ⟨bb, oo, rfl, hbb, hcc⟩ := g6 (enc_pos q)
      refine wp_append_lies _ _ _ 34 rfl (w.heap.size + 1) 5 i0 (.int .u8 0) 1 1 Tryd.underlying34 hif hz0 hz1 hz2 rfl (by decide) _ L (bytesV out) rfl (HLO.out ▸ HO3.out.1) ⟨bb, oo, none⟩ (enc q).length cc (bytesV (enc q)) rfl (by rw [bytesV_length, Nat.mul_one]) ?n1 (bytesV_one _) (enc_pos q) (by have := enc_ten HQL.out; unfold maxLen; omega) (by have := enc_ten HQL.out; omega) (by omega) w3.heap.size rfl ?_
      case n1 =>
        intro jj u hj
        have hj' : jj < (enc q).length := by
          have := (List.getElem?_eq_some_iff.1 hj).1
          rwa [bytesV_length] at this
        rw [Addr.add_lit]
        obtain ⟨y, hy⟩ := ex_at hj'
        have : (bytesV (enc q))[jj]? = some (.int .u8 y) := by simp [bytesV, hy]
        rw [this] at hj
        cases hj
        exact hcc jj y hy
      intro g cap w4 hown4 hgrow _ _
      have HB4 := Lib.hid (HB3.out.trans (below_grown (B := w.heap.size + 1) hgrow (by omega) (fun r e => HO3.out.base r e)))
      have HO4 := Lib.hid (show Own w4 (w.heap.size + 1) (.slice (some ⟨g, 0, none⟩) (L + (enc q).length) cap) (out ++ enc q) from ⟨by rw [List.length_append, bytesV_append, HLO.out]; exact hown4, fun z hz => by
        rcases List.mem_append.1 hz with h | h
        · exact HO3.out.2 z h
        · exact enc_bytes q z h⟩)
      clear hown4 hgrow
      refine hK.out _ _ HB4.out (fun h => absurd h (by decide)) ?_
      refine wpAnyN_step (i := 9) (by kernel_rfl) rfl (by kernel_rfl) ?_
      intro K' hK
      try simp only [Act.put]
      go_simp
      refine hK.out _ _ HB4.out (fun h => absurd h (by decide)) ?_
      refine wpAnyN_done (by kernel_rfl) ?_
      try simp only [Act.put]
      try go_simp
      have HI4 := Lib.hid (show CmdAt w4 w.heap.size c from (HB4.out.block w.heap.size (by omega)).trans HI.out)
      have HBW4 := Lib.hid (HBW.out.trans (HB4.out.mono (by omega)))
      go_wp2_with fail
      go_roundg (fs.length - (i + 1))
      case measure => have := HG0.out; omega
      case rel => exact ⟨i + 1, rfl, by omega, by go_num, HI4.out, HBW4.out, by rw [HNS.out]; exact HO4.out⟩
    · have hiL : i = fs.length := by omega
      have hiz : ¬ (i : Int) < (fs.length : Int) := by omega
      have HF := Lib.hid (show Own wr w.heap.size u3 (encC c) by
        have h := HO.out
        rw [hiL, List.take_length, ← HENC.out] at h
        exact h.weaken (by omega))
      clear hiL
      go_wp2
      go_ret
      exact ⟨_, rfl, HF.out, HBW.out⟩
end Go.Proofs.YtnddojngbolbfaaDoor
