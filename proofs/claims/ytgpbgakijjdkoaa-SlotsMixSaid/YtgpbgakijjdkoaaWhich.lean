/-
  which and IDs of the document.
  Conditions: where the table lies; its numbers are small.
-/
import Derived.Test.YtgpbgakijjdkoaaRefTab
import Derived.Deep.Cut
import Derived.Deep.CutRange
set_option linter.unusedVariables false
namespace Go.Proofs.Ytgpbgakijjdkoaa
open Go.RowKit TI

def WhichRel (r : Rs) (n : Nat) (w : World) (g : Nat) (s3 s4 : Value) (wr : World) : Prop :=
  ∃ k : Nat, k ≤ n ∧ g = n - k ∧ s4 = .int .i64 k ∧ s3 = .int .i64 (whichT r k : Nat) ∧ Below w.heap.size w wr
theorem which_succ (r : Rs) (k : Nat) : whichT r (k + 1) = if r.tk k = true then whichT r k else if whichT r k = 0 ∨ r.wh (whichT r k - 1) < r.wh k then k + 1 else whichT r k := rfl

set_option maxRecDepth 100000 in
set_option maxHeartbeats 8000000 in
theorem which_any (W : World) (b c : Nat) (r : Rs) (h : RefAt W b r) (hf : Few r) :
    Calls Try.prog 32 #[refV b c r] W (RetB (.int .i64 (whichT r r.n : Nat)) W) := by
  unfold refV
  have HSZ := Lib.hid (show Below W.heap.size W (W.alloc (.cells #[.slice (some ⟨b, 0, none⟩) r.n c, .int .i64 r.clk] 30)) from (Below.refl _ _).alloc (Nat.le_refl _) _)
  have HR := h.below HSZ.out
  have HBX : (W.alloc (.cells #[.slice (some ⟨b, 0, none⟩) r.n c, .int .i64 r.clk] 30)).cell? ⟨W.heap.size, 0, none⟩ = some (.slice (some ⟨b, 0, none⟩) r.n c) := by rw [World.cell?_alloc_new]; rfl
  have HBL : W.heap.size < (W.alloc (.cells #[.slice (some ⟨b, 0, none⟩) r.n c, .int .i64 r.clk] 30)).heap.size := by rw [World.size_alloc]; omega
  have HF := Lib.hid hf
  have hn1 := hf.n1
  obtain ⟨n, hnn⟩ : ∃ n, r.n = n := ⟨_, rfl⟩
  have HN := Lib.hid hnn
  rw [hnn] at hn1 ⊢
  go_enter Try.func32, Try.ntmps32
  go_upto_region 2 with fail
  rw [hnn] at HSZ HR HBX HBL
  generalize hw0 : W.alloc (.cells #[.slice (some ⟨b, 0, none⟩) n c, .int .i64 r.clk] 30) = w0 at HSZ HR HBX HBL ⊢
  generalize hbx : W.heap.size = bx at HBX HBL ⊢
  have HBXE := Lib.hid hbx
  have HRR := Lib.hid HR
  have HBLL := Lib.hid HBL
  have HBXX := Lib.hid HBX
  clear hw0 hbx h hf HR HBL hnn
  go_wp2_with fail
  go_loopg [3, 4] n (fun g s3 s4 wr => WhichRel r n w0 g s3 s4 wr)
  case atStart => exact ⟨0, Nat.zero_le _, rfl, rfl, rfl, Below.refl _ _⟩
  case round =>
    obtain ⟨k, hk, hg, rfl, rfl, hbr⟩ := hrel
    have HG := Lib.hid hg
    have HB := Lib.hid hbr
    have jb := (hbr.cell (p := ⟨bx, 0, none⟩) HBLL.out).trans HBXX.out
    clear hg hbr HBX
    by_cases hlt : k < n
    · obtain ⟨k0, k1, k2, k3⟩ := HRR.out.at_ k (by rw [HN.out]; exact hlt)
      have j0 := (HB.out.cell (p := ⟨b, k * 4, none⟩) HRR.out.lt).trans k0
      have j1 := (HB.out.cell (p := ⟨b, k * 4 + 1, none⟩) HRR.out.lt).trans k1
      have j2 := (HB.out.cell (p := ⟨b, k * 4 + 2, none⟩) HRR.out.lt).trans k2
      have j3 := (HB.out.cell (p := ⟨b, k * 4 + 3, none⟩) HRR.out.lt).trans k3
      have hsz := HB.out.size
      have hws := which_succ r k
      have hwl := whichT_le r k
      obtain ⟨bst, hbst⟩ : ∃ x, whichT r k = x := ⟨_, rfl⟩
      rw [hbst] at hws hwl ⊢
      obtain ⟨wk, hwk⟩ : ∃ x, r.wh k = x := ⟨_, rfl⟩
      rw [hwk] at j3 hws
      generalize r.X k = x at j0
      generalize r.fd k = fd at j2
      have y0 : (k : Int) < (n : Int) := Int.ofNat_lt.2 hlt
      have HLT := Lib.hid hlt
      have hlt' : (k : Int) < (n : Int) := y0
      have t1 := HBLL.out
      have t2 := HRR.out.lt
      have q1 : b ≠ wr.heap.size := by omega
      have q2 : bx ≠ wr.heap.size := by omega
      have q3 : wr.heap.size ≠ b := by omega
      have q4 : wr.heap.size ≠ bx := by omega
      clear k0 k1 k2 k3 hbst hwk t1 t2
      cases htk : r.tk k
      · rw [htk] at hws j1
        rw [if_neg (by simp)] at hws
        by_cases hb0 : bst = 0
        · subst hb0
          rw [if_pos (.inl rfl)] at hws
          have HW := Lib.hid hws
          clear hws
          go_wp2_with fail
          go_quiet (fail)
          go_wp2_with fail
          go_roundg (n - (k + 1))
          case measure => have := HG.out; have := HLT.out; omega
          case rel => exact ⟨k + 1, HLT.out, rfl, by go_num, by rw [HW.out]; go_num, below_drewN (HB.out.alloc hsz _) _⟩
        · have HBLR := Lib.hid (Nat.lt_of_lt_of_le HBLL.out hsz)
          have HRLR := Lib.hid (Nat.lt_of_lt_of_le HRR.out.lt hsz)
          obtain ⟨z, hz⟩ : ∃ z, bst - 1 = z := ⟨_, rfl⟩
          have hzn : z < n := by omega
          obtain ⟨_, _, _, k3⟩ := HRR.out.at_ z (by rw [HN.out]; exact hzn)
          have jz := (HB.out.cell (p := ⟨b, z * 4 + 3, none⟩) HRR.out.lt).trans k3
          rw [hz] at hws
          generalize r.wh z = wz at jz hws
          have y1 : (bst : Int) - 1 = (z : Int) := by omega
          have y2 : ((bst : Int) == 0) = false := by simp; omega
          have y3 : (z : Int) < (n : Int) := Int.ofNat_lt.2 hzn
          have y4 : wrap64 (z : Int) = (z : Int) := wrap64_nat (by omega)
          by_cases hw : wz < wk
          · rw [if_pos (.inr hw)] at hws
            have HW := Lib.hid hws
            have y5 : decide ((wz : Int) < (wk : Int)) = true := decide_eq_true (Int.ofNat_lt.2 hw)
            have y6 : (wz : Int) < (wk : Int) := Int.ofNat_lt.2 hw
            clear hws hz k3 hb0 hw
            go_upto_region 6 with fail
            generalize hwa : wr.alloc (.cells #[.int .i64 x, .bool false, .int .i64 fd, .int .i64 wk] 47) = wa
            have HBA := Lib.hid (show Below wr.heap.size wr wa by rw [← hwa]; exact (Below.refl _ _).alloc (Nat.le_refl _) _)
            have n1 : wa.cell? ⟨wr.heap.size, 1, none⟩ = some (.bool false) := by rw [← hwa, World.cell?_alloc_new]; rfl
            have n3 : wa.cell? ⟨wr.heap.size, 3, none⟩ = some (.int .i64 wk) := by rw [← hwa, World.cell?_alloc_new]; rfl
            have ja := (HBA.out.cell (p := ⟨bx, 0, none⟩) HBLR.out).trans jb
            have jy := (HBA.out.cell (p := ⟨b, z * 4 + 3, none⟩) HRLR.out).trans jz
            clear hwa j0 j1 j2 j3 jb jz q1 q2 q3 q4
            go_wp2_with fail
            go_quiet (fail)
            go_wp2_with fail
            go_roundg (n - (k + 1))
            case measure => have := HG.out; have := HLT.out; clear y4; omega
            case rel => exact ⟨k + 1, HLT.out, rfl, by go_num, by rw [HW.out]; go_num, below_drewN (HB.out.trans (HBA.out.mono hsz)) _⟩
          · rw [if_neg (fun h => h.elim hb0 hw)] at hws
            have HW := Lib.hid hws
            have y6 : ¬ (wz : Int) < (wk : Int) := fun h => hw (Int.ofNat_lt.1 h)
            have y5 : decide ((wz : Int) < (wk : Int)) = false := decide_eq_false y6
            clear hws hz k3 hb0 hw
            go_upto_region 6 with fail
            generalize hwa : wr.alloc (.cells #[.int .i64 x, .bool false, .int .i64 fd, .int .i64 wk] 47) = wa
            have HBA := Lib.hid (show Below wr.heap.size wr wa by rw [← hwa]; exact (Below.refl _ _).alloc (Nat.le_refl _) _)
            have n1 : wa.cell? ⟨wr.heap.size, 1, none⟩ = some (.bool false) := by rw [← hwa, World.cell?_alloc_new]; rfl
            have n3 : wa.cell? ⟨wr.heap.size, 3, none⟩ = some (.int .i64 wk) := by rw [← hwa, World.cell?_alloc_new]; rfl
            have ja := (HBA.out.cell (p := ⟨bx, 0, none⟩) HBLR.out).trans jb
            have jy := (HBA.out.cell (p := ⟨b, z * 4 + 3, none⟩) HRLR.out).trans jz
            clear hwa j0 j1 j2 j3 jb jz q1 q2 q3 q4
            go_wp2_with fail
            go_quiet (fail)
            go_wp2_with fail
            go_roundg (n - (k + 1))
            case measure => have := HG.out; have := HLT.out; clear y4; omega
            case rel => exact ⟨k + 1, HLT.out, rfl, by go_num, by rw [HW.out], below_drewN (HB.out.trans (HBA.out.mono hsz)) _⟩
      · rw [htk] at hws j1
        rw [if_pos rfl] at hws
        have HW := Lib.hid hws
        clear hws
        go_wp2_with fail
        go_roundg (n - (k + 1))
        case measure => have := HG.out; have := HLT.out; omega
        case rel => exact ⟨k + 1, HLT.out, rfl, by go_num, by rw [HW.out], HB.out.alloc hsz _⟩
    · have hkn : k = n := by omega
      subst hkn
      have HFI := Lib.hid (HSZ.out.trans (HB.out.mono HSZ.out.size))
      go_wp2_with fail
      go_ret
      exact ⟨rfl, HFI.out⟩

set_option maxRecDepth 100000 in
set_option maxHeartbeats 8000000 in
theorem refIds_any (W : World) (b c : Nat) (r : Rs) (h : RefAt W b r) (hf : Few r) :
    Calls Try.prog 12 #[refV b c r] W (RetL (idsI r.tk r.n) W) := by
  obtain ⟨i0, hi0, hz0, hz1, hz2⟩ := info_parts Try.infoInt
  unfold refV
  have HSZ := Lib.hid (show Below W.heap.size W (W.alloc (.cells #[.slice (some ⟨b, 0, none⟩) r.n c, .int .i64 r.clk] 30)) from (Below.refl _ _).alloc (Nat.le_refl _) _)
  have HR := h.below HSZ.out
  have HBX : (W.alloc (.cells #[.slice (some ⟨b, 0, none⟩) r.n c, .int .i64 r.clk] 30)).cell? ⟨W.heap.size, 0, none⟩ = some (.slice (some ⟨b, 0, none⟩) r.n c) := by rw [World.cell?_alloc_new]; rfl
  have HBL : W.heap.size < (W.alloc (.cells #[.slice (some ⟨b, 0, none⟩) r.n c, .int .i64 r.clk] 30)).heap.size := by rw [World.size_alloc]; omega
  have HF := Lib.hid hf
  have hn1 := hf.n1
  obtain ⟨n, hnn⟩ : ∃ n, r.n = n := ⟨_, rfl⟩
  have HN := Lib.hid hnn
  rw [hnn] at hn1 ⊢
  go_enter Try.func12, Try.ntmps12
  go_upto_region 1 with fail
  rw [hnn] at HSZ HR HBX HBL
  generalize hw0 : W.alloc (.cells #[.slice (some ⟨b, 0, none⟩) n c, .int .i64 r.clk] 30) = w0 at HSZ HR HBX HBL ⊢
  generalize hbx : W.heap.size = bx at HBX HBL ⊢
  have HBXE := Lib.hid hbx
  have HRR := Lib.hid HR
  have HBLL := Lib.hid HBL
  have HBXX := Lib.hid HBX
  clear hw0 hbx h hf HR HBL hnn
  go_wp2_with fail
  generalize hw2 : w0.alloc (.cells #[] 3) = w2
  have HB2 := Lib.hid (show Below w0.heap.size w0 w2 by rw [← hw2]; exact (Below.refl _ _).alloc (Nat.le_refl _) _)
  have HO2 := Lib.hid (show w2.ownsRow w0.heap.size 3 1 (.slice (some ⟨w0.heap.size, 0, none⟩) 0 0) 0 [] by
    rw [← hw2]
    exact ⟨rfl, .inr ⟨w0.heap.size, 0, #[], rfl, Nat.le_refl _, heap_alloc_new w0 _, Nat.le_refl _, Nat.zero_le _, rfl, rfl⟩⟩)
  clear hw2
  go_loopg [3, 4] n (fun g s3 s4 wr => IdsRel r.tk n w0 g s3 s4 wr)
  case atStart => exact ⟨0, Nat.zero_le _, rfl, rfl, HB2.out, HO2.out⟩
  case round =>
    obtain ⟨k, hk, hg, rfl, hbr, hown⟩ := hrel
    have HG := Lib.hid hg
    have HB := Lib.hid hbr
    have HO := Lib.hid hown
    have jb := (hbr.cell (p := ⟨bx, 0, none⟩) HBLL.out).trans HBXX.out
    clear hg hbr hown HBX
    by_cases hlt : k < n
    · obtain ⟨_, k1, _, _⟩ := HRR.out.at_ k (by rw [HN.out]; exact hlt)
      have j1 := (HB.out.cell (p := ⟨b, k * 4 + 1, none⟩) HRR.out.lt).trans k1
      have hlen : cntU r.tk k ≤ k := cntU_le r.tk k
      rw [idsI_length] at HO
      obtain ⟨cn, hn⟩ : ∃ x, cntU r.tk k = x := ⟨_, rfl⟩
      rw [hn] at HO hlen
      have HCN := Lib.hid hn
      have y0 : (k : Int) < (n : Int) := Int.ofNat_lt.2 hlt
      have HLT := Lib.hid hlt
      have hsz := HB.out.size
      clear hn k1
      cases hb : r.tk k
      · have HE := Lib.hid (idsI_no hb)
        rw [hb] at j1
        clear hb
        go_wp2_with fail
        go_roundg (n - (k + 1))
        case measure => have := HG.out; have := HLT.out; omega
        case rel => exact ⟨k + 1, HLT.out, rfl, by go_num, HB.out, by rw [HE.out, idsI_length, HCN.out]; exact HO.out⟩
      · have HE := Lib.hid (idsI_yes hb)
        rw [hb] at j1
        have KB := Lib.hid (show cn + 1 ≤ 100000 by omega)
        clear hb
        go_upto_region 6 with fail
        clear jb j1
        go_wp2_with (at_builtin; refine wpList_append_own _ rfl _ _ 37 rfl w0.heap.size 3 i0 (.int .i64 0) 1 8 Try.underlying37 hi0 hz0 hz1 hz2 rfl (by decide) _ _ _ rfl (HO.out.alloc _) ⟨wr.heap.size, 0, none⟩ 1 1 [.int .i64 (k + 1)] rfl rfl ?c1 ?c2 ?c3 ?c4 ?c5 ?_)
        case c1 =>
          intro j u hj
          rcases j with _ | j
          · simpa [Addr.add] using hj
          · simp at hj
        case c2 => intro u hu; simp at hu; subst hu; rfl
        case c3 => exact len_small KB.out
        case c4 => exact bytes_small 8 (by decide) KB.out
        case c5 => exact Nat.le_trans hsz (Nat.le_trans (Nat.le_succ _) (Nat.le_of_eq (World.size_alloc _ _).symm))
        intro v2 w3 hown3 hgrow _
        have HB3 := Lib.hid ((HB.out.alloc hsz _).trans (below_grown hgrow (Nat.le_trans hsz (Nat.le_trans (Nat.le_succ _) (Nat.le_of_eq (World.size_alloc _ _).symm))) (own_base HO.out)))
        have HO3 := Lib.hid hown3
        clear hown3 hgrow hsz
        go_wp2_with fail
        go_roundg (n - (k + 1))
        case measure => have := HG.out; have := HLT.out; omega
        case rel =>
          refine ⟨k + 1, HLT.out, rfl, by go_num, HB3.out, ?_⟩
          have e := HO3.out
          rw [HE.out, List.length_append, idsI_length, HCN.out, List.map_append]
          exact e
    · have hkn : k = n := by omega
      subst hkn
      have HRI := Lib.hid (ints_of_own HO.out (by rw [idsI_length]; have := cntU_le r.tk k; omega))
      have HFI := Lib.hid (HSZ.out.trans (HB.out.mono HSZ.out.size))
      go_wp2_with fail
      go_ret
      exact ⟨_, rfl, HRI.out, HFI.out⟩
end Go.Proofs.Ytgpbgakijjdkoaa
