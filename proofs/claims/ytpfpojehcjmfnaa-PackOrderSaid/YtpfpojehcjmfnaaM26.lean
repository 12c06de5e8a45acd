/-
  Pieces and places held against each other.
  Conditions: the slices read as pieces.
-/
import Derived.Test.YtpfpojehcjmfnaaM13
import Derived.Test.YtpfpojehcjmfnaaM21
import Derived.Test.YtpfpojehcjmfnaaM25
import Derived.Test.YtpfpojehcjmfnaaM20
import Derived.Test.YtpfpojehcjmfnaaM17
import Derived.Test.YtpfpojehcjmfnaaM14
import Derived.Test.YtpfpojehcjmfnaaM24
import Derived.Test.YtpfpojehcjmfnaaM02

/-
  Full, by contract.
  Conditions: the slice reads as wants; the numbers are of their kinds.
-/
set_option linter.unusedVariables false
set_option linter.unusedSimpArgs false
namespace Go.Proofs.Ytpfpojehcjmfnaa
open Go.RowKit

set_option maxRecDepth 100000 in
set_option maxHeartbeats 8000000 in
theorem full_any (f : Int) (m : Nat) (vw : Value) (ws : List Sp) (w : World) (hw : SpansAt w vw ws) (hi : IntsS ws) (hm : m < 4294967296) (hl : ws.length ≤ 300) :
    Calls Try.prog 4 #[.int .i64 f, .int .u32 m, vw] w (RetFull f m ws w) := by
  have HFI := Lib.hid (fun W hv => fit_any f m (.slice none 0 0) [] vw ws W (PlsIn.nil _ W) light_nil hv hi hm (show 0 + ws.length ≤ 300 by omega))
  have HSL := Lib.hid (fun (hr : Right f m []) (hc : chkT f ws = 0) v vo W hp hv => split_any f m v (fitT f m [] (sortT ws)).1 vo (fitT f m [] (sortT ws)).2 W hp (fit_light hr hc) hv (fit_ints hr hc hi) hm (by have := fit_lens hr hc; omega))
  have HWY := Lib.hid (fun (hr : Right f m []) (hc : chkT f ws = 0) E => Why20.of (E := E) hr hc)
  have HW := Lib.hid hw
  have HEQ : Hid ((chT f m (fitT f m [] (sortT ws)).1 (fitT f m [] (sortT ws)).2).1 = fullT f m ws) := Lib.hid rfl
  unfold planA at HFI HSL
  obtain ⟨wr, R, hwr, hR, hRl, hbr, hrox⟩ := box_any w #[.int .i64 0, .int .u32 0, .slice none 0 0] 28
  have HBR := Lib.hid hbr
  have HRB := Lib.hid hrox
  have HRL : Hid (w.heap.size ≤ R) := Lib.hid (by omega)
  clear hw hi hm hl hbr hrox
  go_enter Try.func4, Try.ntmps4
  go_wp2_with fail
  refine (HFI.out wr (HW.out.keep HBR.out)).mono ?_
  rintro e w3 ⟨E, hwhy, hb3, hcase⟩
  have HWH := Lib.hid hwhy
  have HB3 := Lib.hid (HBR.out.trans (hb3.mono HBR.out.size))
  have HR3 := Lib.hid (keep_block HRB.out hb3)
  obtain ⟨w4, Q, hw4, hQ, hQl, hb4, hqb⟩ := box_any w3 #[.int .i64 0, .int .u32 0, .slice none 0 0] 28
  have HQB := Lib.hid hqb
  rcases hcase with ⟨rfl, v, vo, rfl, hpl, hvo⟩ | ⟨hE, rfl⟩
  · have hg := hwhy.zero
    have HSL7 := Lib.hid (HSL.out hg.right hg.chk)
    have HWY7 := Lib.hid (HWY.out hg.right hg.chk)
    generalize (fitT f m [] (sortT ws)).1 = L1 at *
    generalize (fitT f m [] (sortT ws)).2 = W1 at *
    have HPL := Lib.hid hpl.any
    have HVO := Lib.hid hvo
    obtain ⟨A, cA, rfl, _, _⟩ := hpl.form
    obtain ⟨n1, hn1⟩ : ∃ n1, L1.length = n1 := ⟨_, rfl⟩
    rw [hn1] at HPL ⊢
    obtain ⟨w9, hw9⟩ : ∃ w9, w4.setRow Q #[.int .i64 f, .int .u32 m, .slice A n1 cA] = w9 := ⟨_, rfl⟩
    have hb9 : Below w3.heap.size w3 w9 := by rw [← hw9]; exact below_row hb4 (by omega) _
    have HB9 := Lib.hid (HB3.out.trans (hb9.mono HB3.out.size))
    have HQ9 : Hid (w9.heap[Q]? = some (.cells #[.int .i64 f, .int .u32 m, .slice A n1 cA] 28 (0, 0))) := Lib.hid (by rw [← hw9]; exact setRow_heap _ _ _ _ _ _ hqb)
    have HR9 := Lib.hid (keep_block HR3.out hb9)
    have HSL9 := Lib.hid (HSL7.out _ vo w9 (HPL.out.keep hb9) (HVO.out.keep hb9))
    obtain ⟨q0, q1, q2⟩ := three_heads HQ9.out
    clear hb3 hpl hvo hb4 hb9 hqb hn1 hwhy HSL HSL7 HFI HWY hg
    unfold planA
    go_wp2_with (refine wpList_store_row rfl _ _ _ rfl Q #[.int .i64 f, .int .u32 m, .slice A n1 cA] rfl rfl 28 _ HQB.out (Try.sizePn _ _ _) rfl (one3 _ _ _ _ _) ?_)
    refine HSL9.out.mono ?_
    rintro e w10 ⟨E, hwhy, hb10, hcase⟩
    have HWE := Lib.hid (HWY7.out _ hwhy)
    have HB10 := Lib.hid (HB9.out.trans (hb10.mono HB9.out.size))
    have HR10 := Lib.hid (keep_block HR9.out hb10)
    rcases hcase with ⟨rfl, v5, rfl, hpl5⟩ | ⟨hE, rfl⟩
    · rw [HEQ.out] at hpl5
      obtain ⟨A5, c5, rfl, _, _⟩ := hpl5.form
      obtain ⟨n5, hn5⟩ : ∃ n5, (fullT f m ws).length = n5 := ⟨_, rfl⟩
      rw [hn5] at hpl5 ⊢
      have HEND : Hid (PlsAt (w10.setRow R #[.int .i64 f, .int .u32 m, .slice A5 n5 c5]) (.slice A5 n5 c5) (fullT f m ws) ∧ Below w.heap.size w (w10.setRow R #[.int .i64 f, .int .u32 m, .slice A5 n5 c5])) := Lib.hid ⟨(PlsIn.setRow (pls_not HR10.out hpl5) (.inl fun h => h.2 rfl)).any, below_row HB10.out HRL.out _⟩
      clear hb10 hpl5 hn5 q0 q1 q2 hw4 hw9 hQ hwhy
      unfold planA
      go_wp2_with (refine wpList_store_row rfl _ _ _ rfl R #[.int .i64 f, .int .u32 m, .slice A5 n5 c5] rfl rfl 28 _ HR10.out (Try.sizePn _ _ _) rfl (one3 _ _ _ _ _) ?_)
      refine bodyPost_ret (v := .tuple #[planA f m (.slice A5 n5 c5), .int .i64 0]) (results_row_tmp rfl _ _ R _ _ _ _ rfl (setRow_heap _ _ _ _ _ _ HR10.out) Try.underlying28 rfl (Try.sizePn _ _ _) _ rfl) rfl ?_
      exact ⟨0, HWE.out, HEND.out.2, .inl ⟨rfl, _, rfl, HEND.out.1⟩⟩
    · have HNE := Lib.hid hE
      have HEND := Lib.hid (below_row HB10.out HRL.out #[.int .i64 0, .int .u32 0, .slice none 0 0])
      clear hb10 q0 q1 q2 hw4 hw9 hQ hwhy hE
      unfold planA
      go_wp2_with (refine wpList_store_row rfl _ _ _ rfl R #[.int .i64 0, .int .u32 0, .slice none 0 0] rfl rfl 28 _ HR10.out (Try.sizePn _ _ _) rfl (one3 _ _ _ _ _) ?_)
      refine bodyPost_ret (v := .tuple #[planA 0 0 (.slice none 0 0), .int .i64 E]) (results_row_tmp rfl _ _ R _ _ _ _ rfl (setRow_heap _ _ _ _ _ _ HR10.out) Try.underlying28 rfl (Try.sizePn _ _ _) _ rfl) rfl ?_
      exact ⟨E, HWE.out, HEND.out, .inr ⟨HNE.out, rfl⟩⟩
  · have HNE := Lib.hid hE
    have HWE := Lib.hid (Why20.fit HWH.out hE)
    have hb0 : (E != 0) = true := by simpa using hE
    obtain ⟨w9, hw9⟩ : ∃ w9, w4.setRow Q #[.int .i64 0, .int .u32 0, .slice none 0 0] = w9 := ⟨_, rfl⟩
    have hb9 : Below w3.heap.size w3 w9 := by rw [← hw9]; exact below_row hb4 (by omega) _
    have HB9 := Lib.hid (HB3.out.trans (hb9.mono HB3.out.size))
    have HR9 := Lib.hid (keep_block HR3.out hb9)
    have HEND := Lib.hid (below_row HB9.out HRL.out #[.int .i64 0, .int .u32 0, .slice none 0 0])
    clear hb3 hb4 hb9 hqb hwhy HSL HFI HWY hE
    unfold planA
    go_wp2_with (first
      | refine wpList_store_row rfl _ _ _ rfl Q #[.int .i64 0, .int .u32 0, .slice none 0 0] rfl rfl 28 _ HQB.out (Try.sizePn _ _ _) rfl (one3 _ _ _ _ _) ?_
      | refine wpList_store_row rfl _ _ _ rfl R #[.int .i64 0, .int .u32 0, .slice none 0 0] rfl rfl 28 _ HR9.out (Try.sizePn _ _ _) rfl (one3 _ _ _ _ _) ?_)
    refine bodyPost_ret (v := .tuple #[planA 0 0 (.slice none 0 0), .int .i64 E]) (results_row_tmp rfl _ _ R _ _ _ _ rfl (setRow_heap _ _ _ _ _ _ HR9.out) Try.underlying28 rfl (Try.sizePn _ _ _) _ rfl) rfl ?_
    exact ⟨E, HWE.out, HEND.out, .inr ⟨HNE.out, rfl⟩⟩
end Go.Proofs.Ytpfpojehcjmfnaa

/-
  Fits, Least and Again, by contract.
  Conditions: the slices read as wants, as places; the numbers are of their kinds.
-/
set_option linter.unusedVariables false
set_option linter.unusedSimpArgs false
namespace Go.Proofs.Ytpfpojehcjmfnaa
open Go.RowKit

set_option maxRecDepth 100000 in
set_option maxHeartbeats 8000000 in
theorem pkFits_any (f : Int) (m : Nat) (vw : Value) (ws : List Sp) (w : World) (hw : SpansAt w vw ws) (hi : IntsS ws) (hm : m < 4294967296) (hl : ws.length ≤ 300) :
    Calls Try.prog 12 #[.int .i64 f, .int .u32 m, vw] w (RetFits f m ws w) := by
  have HFU := Lib.hid (full_any f m vw ws w hw hi hm hl)
  clear hw hi hm hl
  go_enter Try.func12, Try.ntmps12
  go_wp2_with fail
  refine HFU.out.mono ?_
  rintro e w2 ⟨E, hwhy, hb2, hcase⟩
  have HWH := Lib.hid hwhy
  obtain ⟨w3, Q, hw3, hQ, hQl, hb3, hqb⟩ := box_any w2 #[.int .i64 0, .int .u32 0, .slice none 0 0] 28
  have HQB := Lib.hid hqb
  rcases hcase with ⟨rfl, v, rfl, hpl⟩ | ⟨hE, rfl⟩
  · obtain ⟨A, cA, rfl, _, _⟩ := hpl.form
    obtain ⟨n, hn⟩ : ∃ n, (fullT f m ws).length = n := ⟨_, rfl⟩
    rw [hn]
    have HEND := Lib.hid (hb2.trans (below_row (hb3.mono hb2.size) (show w.heap.size ≤ Q by have := hb2.size; omega) #[.int .i64 f, .int .u32 m, .slice A n cA]))
    clear hb2 hb3 hqb hpl hn hwhy
    unfold planA
    go_wp2_with (refine wpList_store_row rfl _ _ _ rfl Q #[.int .i64 f, .int .u32 m, .slice A n cA] rfl rfl 28 _ HQB.out (Try.sizePn _ _ _) rfl (one3 _ _ _ _ _) ?_)
    go_ret
    exact ⟨0, HWH.out, HEND.out, rfl⟩
  · have HEND := Lib.hid (hb2.trans (below_row (hb3.mono hb2.size) (show w.heap.size ≤ Q by have := hb2.size; omega) #[.int .i64 0, .int .u32 0, .slice none 0 0]))
    have hd : (E == 0) = false := by simpa using hE
    have HDE : Hid (decide (E = 0) = false) := Lib.hid (decide_eq_false hE)
    clear hb2 hb3 hqb hwhy hE
    unfold planA
    go_wp2_with (refine wpList_store_row rfl _ _ _ rfl Q #[.int .i64 0, .int .u32 0, .slice none 0 0] rfl rfl 28 _ HQB.out (Try.sizePn _ _ _) rfl (one3 _ _ _ _ _) ?_)
    go_ret
    exact ⟨E, HWH.out, HEND.out, by rw [HDE.out]; rfl⟩

set_option maxRecDepth 100000 in
set_option maxHeartbeats 8000000 in
theorem pkLeast_any (f : Int) (vw : Value) (ws : List Sp) (w : World) (hw : SpansAt w vw ws) (hi : IntsS ws) :
    Calls Try.prog 11 #[.int .i64 f, vw] w (RetB (.tuple #[.int .i64 (leN f ws : Nat), .int .i64 (leE f ws)]) w) := by
  have HCK := Lib.hid (check_any f vw ws w hw hi)
  have HW := Lib.hid hw
  have HI := Lib.hid hi
  obtain ⟨E, hE⟩ : ∃ E, chkT f ws = E := ⟨_, rfl⟩
  rw [hE] at HCK
  clear hw hi
  by_cases he : E = 0
  · subst he
    have HC := Lib.hid hE
    have hf := (WOk.of_chk hE).1
    have HF := Lib.hid hf
    have hfew := few_wants hE
    have HFT : Hid (∀ (M : Nat) W, M < 65536 → SpansAt W vw ws → Calls Try.prog 12 #[.int .i64 f, .int .u32 (M : Int), vw] W (RetFits f M ws W)) := Lib.hid (fun M W hM h => pkFits_any f M vw ws W h HI.out (by omega) (by omega))
    obtain ⟨t, ht⟩ : ∃ t, sumS ws = t := ⟨_, rfl⟩
    have HT := Lib.hid ht
    clear ht hE hf hfew
    go_enter Try.func11, Try.ntmps11
    go_wp2_with fail
    refine HCK.out.mono ?_
    rintro e w1 ⟨rfl, hb1⟩
    have HB1 := Lib.hid hb1
    clear hb1
    go_wp2_with fail
    go_loopg [7] 17 (fun gg s7 wr => ∃ i : Nat, 1 ≤ i ∧ i ≤ 17 ∧ gg = 18 - i ∧ s7 = .int .i64 i ∧ Hid (∀ j : Nat, 1 ≤ j → j < i → (j : Int) * f < t) ∧ Hid (Below w.heap.size w wr))
    case atStart => exact ⟨1, Nat.le_refl _, by decide, rfl, rfl, Lib.hid (fun j h1 h2 => by omega), HB1⟩
    case round =>
      obtain ⟨i, hi1, hi17, hgg, rfl, HJ, HBR⟩ := hrel
      have HG := Lib.hid hgg
      by_cases hlt : i ≤ 16
      · have hltz : (i : Int) ≤ 16 := by omega
        have hi0 : (0 : Int) ≤ (i : Int) := by omega
        obtain ⟨M, hM, hM16, hMc, hR⟩ := low_cores HF.out.1 HF.out.2 i hi1 hlt
        have HM : Hid (((2 : Int) ^ i - 1) % 4294967296 = (M : Int)) := Lib.hid hM
        have HR := Lib.hid hR
        have HMC := Lib.hid hMc
        have HFT3 := Lib.hid (HFT.out M wr hM16 (HW.out.keep HBR.out))
        obtain ⟨z, hz⟩ : ∃ z, (i : Int) * f = z := ⟨_, rfl⟩
        have HZ := Lib.hid hz
        have HZC : Hid (f * (coresN M : Int) = z) := Lib.hid (by rw [hMc, ← hz, Int.mul_comm])
        clear hgg hM hM16 hMc hR hz
        go_wp2_with fail
        rw [HM.out]
        refine HFT3.out.mono ?_
        rintro e w2 ⟨E, hwhy, hb2, rfl⟩
        have HB2 := Lib.hid (HBR.out.trans (hb2.mono HBR.out.size))
        by_cases hle : t ≤ z
        · have HL : Hid (leastT f ws = i) := Lib.hid (least_some hi1 hlt (by rw [HT.out, HZ.out]; exact hle) (fun j h1 h2 => by rw [HT.out]; exact HJ.out j h1 h2))
          have HN : Hid (leN f ws = i ∧ leE f ws = 0) := Lib.hid (by unfold leN leE; rw [if_pos HC.out, if_pos HC.out, HL.out, if_neg (by omega)]; exact ⟨rfl, rfl⟩)
          have hE0 : E = 0 := hwhy.unique (FullOk.why ⟨HR.out, HC.out, by rw [HT.out, HZC.out]; exact hle⟩)
          have hdE : decide (E = 0) = true := decide_eq_true hE0
          rw [hdE]
          clear hb2 hwhy hE0 hdE
          go_wp2_with fail
          go_ret2
          exact ⟨by rw [HN.out.1, HN.out.2]; rfl, HB2.out⟩
        · have hE0 : E = 12 := hwhy.unique (.inr (.inr (.inl ⟨HR.out, HC.out, by rw [HT.out, HZC.out]; omega, rfl⟩)))
          have hdE : decide (E = 0) = false := decide_eq_false (by rw [hE0]; decide)
          have HJN : Hid (∀ j : Nat, 1 ≤ j → j < i + 1 → (j : Int) * f < t) := Lib.hid (fun j h1 h2 => by
            by_cases hj : j = i
            · rw [hj, HZ.out]; omega
            · exact HJ.out j h1 (by omega))
          rw [hdE]
          clear hb2 hwhy hE0 hdE
          go_wp2_with fail
          go_roundg (18 - (i + 1))
          case measure => have := HG.out; omega
          case rel => exact ⟨i + 1, by omega, by omega, rfl, by go_num, HJN, HB2⟩
      · have hltz : ¬ (i : Int) ≤ 16 := by omega
        have HL : Hid (leastT f ws = 0) := Lib.hid (least_none (fun j h1 h2 => by rw [HT.out]; exact HJ.out j h1 (by omega)))
        have HN : Hid (leN f ws = 0 ∧ leE f ws = 12) := Lib.hid (by unfold leN leE; rw [if_pos HC.out, if_pos HC.out, HL.out, if_pos rfl]; exact ⟨rfl, rfl⟩)
        clear hgg
        go_wp2_with fail
        go_ret2
        exact ⟨by rw [HN.out.1, HN.out.2]; rfl, HBR.out⟩
  · have hb0 : (E != 0) = true := by simpa using he
    have HN : Hid (leN f ws = 0 ∧ leE f ws = E) := Lib.hid (by unfold leN leE; rw [hE, if_neg he, if_neg he]; exact ⟨rfl, rfl⟩)
    clear he hE
    go_enter Try.func11, Try.ntmps11
    go_wp2_with fail
    refine HCK.out.mono ?_
    rintro e w1 ⟨rfl, hb1⟩
    have HB1 := Lib.hid hb1
    clear hb1
    go_wp2_with fail
    go_ret2
    exact ⟨by rw [HN.out.1, HN.out.2]; rfl, HB1.out⟩
end Go.Proofs.Ytpfpojehcjmfnaa

/-
  The page's examples, reckoned.
  Conditions: none.
-/
set_option linter.unusedVariables false
set_option linter.unusedSimpArgs false
namespace Go.Proofs.Ytpfpojehcjmfnaa
open Go.RowKit

theorem lit_spans (W : World) (ps : List Sp) (t : Nat) (hl : ps.length ≤ 100000) : SpansAt (W.alloc (.cells (spansCells ps).toArray t)) (.slice (some ⟨W.heap.size, 0, none⟩) ps.length ps.length) ps := by
  refine spans_of_own (base := 0) (e := t) ?_ (by omega)
  have := World.ownsRow_lit (base := 0) (e := t) (size := 2) W (spansCells ps).toArray ps.length (Nat.zero_le _) (by unfold maxLen; omega) (by simp [spansCells_length])
  simpa using this
def exA : List Sp := [(1, 3), (2, 3), (3, 2)]
def exB : List Sp := [(1, 3), (2, 3)]
def exK : List Pl := [⟨1, 3, 0, []⟩, ⟨2, 3, 1, []⟩]
def exN : List Pl := [⟨1, 3, 0, []⟩, ⟨2, 3, 1, []⟩, ⟨3, 2, 0, [⟨0, 1⟩, ⟨1, 2⟩]⟩]
theorem ex_ok : FullOk 4 3 exA := ⟨right_nil (by decide) (by decide) (by decide) (by decide) (by decide +kernel), by decide +kernel, by decide +kernel⟩
theorem ex_no : Why20 4 1 exB 12 := .inr (.inr (.inl ⟨right_nil (by decide) (by decide) (by decide) (by decide) (by decide +kernel), by decide +kernel, by decide +kernel, rfl⟩))
theorem ex_fit : fitT 4 3 [] (sortT exA) = (exK, [(3, 2)]) := by decide +kernel
theorem ex_chain : (chT 4 3 exK [(3, 2)]).1 = exN := by
  show (chS 4 3 (exK, 0) (3, 2)).1 = exN
  rw [chS_split (by decide +kernel)]
  show addU exK (splP 4 3 exK 0 (3, 2)) = exN
  unfold splP
  rw [pcsA_eq]
  decide +kernel
theorem ex_full : fullT 4 3 exA = exN := by
  unfold fullT
  rw [ex_fit]
  exact ex_chain
theorem ex_found : findU exN 3 = some ⟨3, 2, 0, [⟨0, 1⟩, ⟨1, 2⟩]⟩ := by decide +kernel
theorem ex_least : leN 4 exB = 2 ∧ leE 4 exB = 0 := by decide +kernel
theorem exA_ints : IntsS exA := by
  intro s hs
  simp only [exA, List.mem_cons, List.not_mem_nil, or_false] at hs
  rcases hs with rfl | rfl | rfl <;> exact ⟨by decide, by decide⟩
theorem exB_ints : IntsS exB := by
  intro s hs
  simp only [exB, List.mem_cons, List.not_mem_nil, or_false] at hs
  rcases hs with rfl | rfl <;> exact ⟨by decide, by decide⟩
end Go.Proofs.Ytpfpojehcjmfnaa

/-
  Pieces and places held against each other.
  Conditions: the slices read as pieces.
-/
set_option linter.unusedVariables false
namespace Go.Proofs.Ytpfpojehcjmfnaa
open Go.RowKit

theorem takeP_same {α : Type} {xs ys : List α} {k : Nat} {x y : α} (h : xs.take k = ys.take k) (hx : xs[k]? = some x) (hy : ys[k]? = some y) (e : x = y) : xs.take (k + 1) = ys.take (k + 1) := by
  rw [List.take_add_one, List.take_add_one, h, hx, hy, e]
theorem differP {α : Type} {xs ys : List α} {k : Nat} {x y : α} (hx : xs[k]? = some x) (hy : ys[k]? = some y) (e : x ≠ y) : xs ≠ ys := by
  rintro rfl
  rw [hx] at hy
  exact e (Option.some.inj hy)

theorem pl_no {x y : Pl} (h : x.u ≠ y.u ∨ x.s ≠ y.s ∨ x.c ≠ y.c ∨ x.ps ≠ y.ps) : decide (x = y) = false := decide_eq_false fun e => by
  subst e
  simp at h
theorem pl_same {x y : Pl} (h1 : x.u = y.u) (h2 : x.s = y.s) (h3 : x.c = y.c) : decide (x = y) = decide (x.ps = y.ps) := by
  by_cases h : x.ps = y.ps
  · rw [decide_eq_true h, decide_eq_true (Pl.ext' h1 h2 h3 h)]
  · rw [decide_eq_false h, pl_no (.inr (.inr (.inr h)))]

set_option maxRecDepth 100000 in
set_option maxHeartbeats 4000000 in
theorem refSamePlace_any (u v : Value) (x y : Pl) (w : World) (hs : PcsAt w u x.ps) (ht : PcsAt w v y.ps) :
    Calls Try.prog 9 #[plA u x, plA v y] w (RetB (.bool (decide (x = y))) w) := by
  have HA := Lib.hid hs
  have HB := Lib.hid ht
  have hbA := hs.bound
  have hbB := ht.bound
  obtain ⟨A, c, rfl⟩ := hs.form
  obtain ⟨B, d, rfl⟩ := ht.form
  have HNO := Lib.hid (@pl_no x y)
  have HSA := Lib.hid (@pl_same x y)
  obtain ⟨xu, xs, xc, ps⟩ := x
  obtain ⟨yu, ys, yc, qs⟩ := y
  simp only at *
  obtain ⟨n, hn⟩ : ∃ n, ps.length = n := ⟨_, rfl⟩
  obtain ⟨m, hm⟩ : ∃ m, qs.length = m := ⟨_, rfl⟩
  rw [hn] at HA hbA ⊢
  rw [hm] at HB hbB ⊢
  have HN := Lib.hid hn
  have HM := Lib.hid hm
  obtain ⟨R, hR⟩ : ∃ R, decide ((⟨xu, xs, xc, ps⟩ : Pl) = ⟨yu, ys, yc, qs⟩) = R := ⟨_, rfl⟩
  rw [hR] at HNO HSA ⊢
  obtain ⟨w1, P, hw1, hP, hPl, hb1, hbox⟩ := box_any w #[.int .i64 xu, .int .i64 xs, .int .i64 xc, .slice A n c] 41
  obtain ⟨w2, X, hw2, hX, hXl, hb2, hxbox⟩ := box_any w1 #[.int .i64 yu, .int .i64 ys, .int .i64 yc, .slice B m d] 41
  have HB2 := Lib.hid (hb1.trans (hb2.mono hb1.size))
  have HPB := Lib.hid (keep_block hbox hb2)
  have HXB := Lib.hid hxbox
  obtain ⟨p0, p1, p2, p3⟩ := four_heads HPB.out
  obtain ⟨q0, q1, q2, q3⟩ := four_heads hxbox
  have HA2 := Lib.hid (HA.out.keep HB2.out)
  have HBB2 := Lib.hid (HB.out.keep HB2.out)
  unfold plA
  clear hs ht hn hm hR hb1 hb2 hbox hxbox
  by_cases h1 : xu = yu
  · have e1 : (xu == yu) = true := by simpa using h1
    have e1' : (xu != yu) = false := by simpa using h1
    by_cases h2 : xs = ys
    · have e2 : (xs == ys) = true := by simpa using h2
      have e2' : (xs != ys) = false := by simpa using h2
      by_cases h3 : xc = yc
      · have e3 : (xc == yc) = true := by simpa using h3
        have e3' : (xc != yc) = false := by simpa using h3
        have HR := Lib.hid (HSA.out h1 h2 h3)
        clear h1 h2 h3
        by_cases hne : n = m
        · subst hne
          have hn2 : ((n : Int) != (n : Int)) = false := by simp
          go_enter Try.func9, Try.ntmps9
          go_wp2_with fail
          clear hw1 hP hw2 hX p0 p1 p2 p3 q0 q1 q2 q3
          go_loopg [5] n (fun g i wr => ∃ k : Nat, k ≤ n ∧ g = n - k ∧ i = .int .i64 k ∧ Hid (ps.take k = qs.take k) ∧ Below w2.heap.size w2 wr)
          case atStart => exact ⟨0, Nat.zero_le _, by omega, rfl, rfl, Below.refl _ _⟩
          case round =>
            obtain ⟨k, hk, hg, rfl, HT, hbw⟩ := hrel
            have HG := Lib.hid hg
            have HBW := Lib.hid hbw
            have HBE := Lib.hid (HB2.out.trans (hbw.mono HB2.out.size))
            obtain ⟨p0, p1, p2, p3⟩ := four_heads (keep_block HPB.out hbw)
            obtain ⟨q0, q1, q2, q3⟩ := four_heads (keep_block HXB.out hbw)
            clear hg hbw
            by_cases hlt : k < n
            · have hltz : (k : Int) < (n : Int) := by omega
              have hk0 : (0 : Int) ≤ (k : Int) := by omega
              obtain ⟨x, hx⟩ := exP_at (xs := ps) (k := k) (by rw [HN.out]; exact hlt)
              obtain ⟨y, hy⟩ := exP_at (xs := qs) (k := k) (by rw [HM.out]; exact hlt)
              obtain ⟨b, off, hAe, _, _, x0, x1⟩ := (HA2.out.keep HBW.out).at_ hx
              obtain ⟨b', off', hBe, _, _, y0, y1⟩ := (HBB2.out.keep HBW.out).at_ hy
              subst hAe hBe
              have HTN := Lib.hid (fun e => takeP_same HT hx hy e)
              have HDF := Lib.hid (fun e => differP hx hy e)
              obtain ⟨ac, at_⟩ := x
              obtain ⟨bc, bt⟩ := y
              simp only at x0 x1 y0 y1 HTN HDF
              clear hx hy
              by_cases g1 : ac = bc
              · have f1 : (ac == bc) = true := by simpa using g1
                have f1' : (ac != bc) = false := by simpa using g1
                by_cases g2 : at_ = bt
                · have f2 : ((at_ : Int) == (bt : Int)) = true := by subst g2; simp
                  have f2' : ((at_ : Int) != (bt : Int)) = false := by subst g2; simp
                  have HNX : Hid (ps.take (k + 1) = qs.take (k + 1)) := HTN.out (by rw [g1, g2])
                  clear g1 g2
                  go_wp2_with fail
                  go_quiet (fail)
                  go_wp2_with fail
                  go_roundg (n - (k + 1))
                  case measure => have := HG.out; omega
                  case rel => exact ⟨k + 1, by omega, rfl, by go_num, HNX, below_drewN HBW.out _⟩
                · have f2 : ((at_ : Int) == (bt : Int)) = false := by simp; omega
                  have f2' : ((at_ : Int) != (bt : Int)) = true := by simp; omega
                  have E : Hid (R = false) := HR.out.trans (decide_eq_false (HDF.out (fun h => g2 (by injection h))))
                  clear g1 g2
                  go_wp2_with fail
                  go_quiet (fail)
                  go_wp2_with fail
                  go_ret
                  exact ⟨ret_bool E.out.symm, below_drewN HBE.out _⟩
              · have f1 : (ac == bc) = false := by simpa using g1
                have f1' : (ac != bc) = true := by simpa using g1
                have E : Hid (R = false) := HR.out.trans (decide_eq_false (HDF.out (fun h => g1 (by injection h))))
                clear g1
                go_wp2_with fail
                go_quiet (fail)
                go_wp2_with fail
                go_ret
                exact ⟨ret_bool E.out.symm, below_drewN HBE.out _⟩
            · have hltz : ¬ (k : Int) < (n : Int) := by omega
              have E : Hid (R = true) := HR.out.trans (decide_eq_true (show ps = qs by
                have h : ps.take k = qs.take k := HT
                rwa [List.take_of_length_le (by rw [HN.out]; omega), List.take_of_length_le (by rw [HM.out]; omega)] at h))
              go_wp2_with fail
              go_ret
              exact ⟨ret_bool E.out.symm, HBE.out⟩
        · have E : Hid (R = false) := HR.out.trans (decide_eq_false (show ¬ ps = qs from fun e => hne (by rw [← HN.out, ← HM.out, e])))
          have hn2 : ((n : Int) != (m : Int)) = true := by simp; omega
          clear hne
          go_enter Try.func9, Try.ntmps9
          go_wp2_with fail
          go_ret
          exact ⟨ret_bool E.out.symm, HB2.out⟩
      · have e3 : (xc == yc) = false := by simpa using h3
        have e3' : (xc != yc) = true := by simpa using h3
        have E : Hid (R = false) := HNO.out (.inr (.inr (.inl h3)))
        clear h1 h2 h3
        go_enter Try.func9, Try.ntmps9
        go_wp2_with fail
        go_ret
        exact ⟨ret_bool E.out.symm, HB2.out⟩
    · have e2 : (xs == ys) = false := by simpa using h2
      have e2' : (xs != ys) = true := by simpa using h2
      have E : Hid (R = false) := HNO.out (.inr (.inl h2))
      clear h1 h2
      go_enter Try.func9, Try.ntmps9
      go_wp2_with fail
      go_ret
      exact ⟨ret_bool E.out.symm, HB2.out⟩
  · have e1 : (xu == yu) = false := by simpa using h1
    have e1' : (xu != yu) = true := by simpa using h1
    have E : Hid (R = false) := HNO.out (.inl h1)
    clear h1
    go_enter Try.func9, Try.ntmps9
    go_wp2_with fail
    go_ret
    exact ⟨ret_bool E.out.symm, HB2.out⟩
end Go.Proofs.Ytpfpojehcjmfnaa
