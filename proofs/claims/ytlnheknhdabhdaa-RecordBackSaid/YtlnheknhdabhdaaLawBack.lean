/-
  RecordBack walked.
  Conditions: the argument reads as slices of bytes.
-/
import Derived.Test.YtlnheknhdabhdaaBackMath
set_option linter.unusedVariables false
namespace Go.Proofs.Ytlnheknhdabhdaa
open Go.RowKit

def BackRel (ls : List (Value × List Nat)) (w : World) (g : Nat) (s3 s4 s5 : Value) (wr : World) : Prop :=
  ∃ i : Nat, i ≤ ls.length ∧ i ≤ 20 ∧ g = ls.length - i ∧ s5 = .int .i64 i ∧ Below w.heap.size w wr ∧ Rows2 wr w.heap.size s3 (flatT (goods ls i)) s4 ((goods ls i).map Prod.fst)
def BackRel2 (m : Nat) (w : World) (g : Nat) (s10 : Value) (wr : World) : Prop := ∃ j : Nat, j ≤ m ∧ g = m - j ∧ s10 = .int .i64 j ∧ Below w.heap.size w wr
theorem row_cells {W : World} {base : Nat} {v4 : Value} {us : List Value} (h : W.ownsRow base 22 1 v4 us.length us) :
    ∃ A c, v4 = .slice A us.length c ∧ (0 < us.length → ∃ g, A = some ⟨g, 0, none⟩ ∧ base ≤ g ∧ g < W.heap.size ∧ ∀ (j : Nat) (u : Value), us[j]? = some u → W.cell? ⟨g, j, none⟩ = some u) := by
  rcases h.2 with ⟨rfl, h0⟩ | ⟨g, cap, cur, rfl, hg, hh, hn, hc, hs, ht⟩
  · exact ⟨none, 0, by rw [h0], fun h => by omega⟩
  · refine ⟨_, _, rfl, fun _ => ⟨g, rfl, hg, heap_lt hh, fun j u hu => ?_⟩⟩
    have hj : j < us.length := (List.getElem?_eq_some_iff.1 hu).1
    rw [cell_of_row W g j _ _ (0, 0) hh]
    have : (cur.toList.take (us.length * 1))[j]? = some u := by rw [ht]; exact hu
    rw [List.getElem?_take, if_pos (by omega)] at this
    rw [← this]
    simp

set_option maxRecDepth 100000 in
set_option maxHeartbeats 8000000 in
theorem back_law (ls : List (Value × List Nat)) (v : Value) (w : World) (hv : ListsAt w v ls) : Calls Try.prog 4 #[v] w (RetB (.bool true) w) := by
  obtain ⟨i0, hi0, hz0, hz1, hz2⟩ := info_parts Try.infoBytes
  have HAW := Lib.hid (fun W => awake_any W)
  obtain ⟨A, c, rfl, h1, h2, h3⟩ := hv
  have HAT := Lib.hid h2
  have HBY := Lib.hid h3
  clear h2 h3
  generalize hL : ls.length = L at *
  have HL := Lib.hid hL
  clear hL
  go_enter Try.func4, Try.ntmps4
  go_wp2_with fail
  go_loopg [3, 4, 5] L (fun g s3 s4 s5 wr => BackRel ls w g s3 s4 s5 wr)
  case atStart => exact ⟨0, Nat.zero_le _, Nat.zero_le _, by rw [HL.out]; rfl, rfl, Below.refl _ _, by rw [goods_zero]; exact ⟨Own.nil _ _, World.ownsRow_nil _ _ _ 1, fun k e => by cases e⟩⟩
  case round =>
    obtain ⟨i, hi, hi20, hgk, rfl, hbw, hrows⟩ := hrel
    have HG := Lib.hid hgk
    have HB := Lib.hid hbw
    have HR := Lib.hid hrows
    have hsz := hbw.size
    rw [HL.out] at hi
    clear hgk hbw hrows
    by_cases hlt : i < L ∧ i < 20
    · obtain ⟨hlt, hl20⟩ := hlt
      obtain ⟨b, off, hA, hbl, hcell⟩ := HAT.out (by omega)
      subst hA
      obtain ⟨p, hp⟩ := ex_at (xs := ls) (k := i) (by rw [HL.out]; exact hlt)
      have HC := Lib.hid (fun W (h : Below w.heap.size w W) => (h.cell (p := ⟨b, off + i, none⟩) hbl).trans (hcell i p hp))
      have hpb := HBY.out p (List.mem_of_getElem? hp)
      have HPB := Lib.hid hpb
      have hgy := goods_yes hp
      have hgn := goods_no hp
      obtain ⟨pv, xs⟩ := p
      simp only at HC hpb HPB
      obtain ⟨A1, c1, rfl, _⟩ := hpb
      have hck := HC.out wr HB.out
      have hiz : (i : Int) < (L : Int) := by omega
      have hiz' : decide ((i : Int) < (L : Int)) = true := decide_eq_true hiz
      have hi0z : (0 : Int) ≤ (i : Int) := by omega
      have h20z : (i : Int) < 20 := by omega
      have h20z' : decide ((i : Int) < 20) = true := decide_eq_true h20z
      have KME := Lib.hid (show L - (i + 1) < gk by have := HG.out; have := HL.out; omega)
      have HGL := Lib.hid (goods_le ls i)
      have HGM := Lib.hid (fun p h => goods_mem (ls := ls) (k := i) (p := p) h)
      clear hcell hp
      by_cases hbad : xs.length < 1 ∨ 120 < xs.length
      · have HSB := Lib.hid (seal_bad _ xs wr (HPB.out.keep HB.out) hbad)
        have HGN := Lib.hid (hgn (goodP_no hbad))
        clear hgy hgn
        generalize xs.length = n at *
        have hcut : (n : Int) < 1 ∨ (1 : Int) ≤ (n : Int) ∧ (120 : Int) < (n : Int) := by omega
        clear hbad
        rcases hcut with y1 | ⟨y1, y2⟩
        · have y1' : decide ((1 : Int) ≤ (n : Int)) = false := decide_eq_false (by omega)
          go_upto_region 8 with (go_at_call 14; refine HSB.out.mono ?_; rintro e w1 ⟨rfl, rfl⟩)
          go_quiet (fail)
          go_wp2_with fail
          go_roundg (L - (i + 1))
          case measure => exact KME.out
          case rel => exact ⟨i + 1, by rw [HL.out]; omega, by omega, by rw [HL.out], by go_num, below_drewN HB.out _, by rw [HGN.out]; exact HR.out.keep (below_drewN (Below.refl _ _) _)⟩
        · have y1' : decide ((1 : Int) ≤ (n : Int)) = true := decide_eq_true y1
          have y2' : decide ((n : Int) ≤ 120) = false := decide_eq_false (by omega)
          have y3 : ¬ (n : Int) ≤ 120 := by omega
          go_upto_region 8 with (go_at_call 14; refine HSB.out.mono ?_; rintro e w1 ⟨rfl, rfl⟩)
          go_quiet (fail)
          go_wp2_with fail
          go_roundg (L - (i + 1))
          case measure => exact KME.out
          case rel => exact ⟨i + 1, by rw [HL.out]; omega, by omega, by rw [HL.out], by go_num, below_drewN HB.out _, by rw [HGN.out]; exact HR.out.keep (below_drewN (Below.refl _ _) _)⟩
      · have HSG := Lib.hid (seal_ok _ xs wr (HPB.out.keep HB.out) (by omega) (by omega))
        have HREF := Lib.hid (fun W (h : Below w.heap.size w W) => refSeal_any _ xs W (HPB.out.keep h) (by omega))
        have HGY := Lib.hid (hgy (goodP_yes (by show 1 ≤ xs.length; omega) (by show xs.length ≤ 120; omega)))
        have y1 : (1 : Int) ≤ (xs.length : Int) := by omega
        have y1' : decide ((1 : Int) ≤ (xs.length : Int)) = true := decide_eq_true y1
        have y2 : (xs.length : Int) ≤ 120 := by omega
        have y2' : decide ((xs.length : Int) ≤ 120) = true := decide_eq_true y2
        have HSL := Lib.hid (sealT_length xs)
        have HXL := Lib.hid (show xs.length ≤ 120 by omega)
        clear hgy hgn hbad
        generalize xs.length = n at *
        go_upto_region 8 with (go_at_call 14; refine HSG.out.mono ?_; rintro e w1 ⟨v6, rfl, hown6, hb6⟩; have HO6 := Lib.hid hown6.bytes; have HC6 := Lib.hid hb6; have HB1 := Lib.hid (HB.out.trans (hb6.mono hsz)); have hck1 := HC.out w1 HB1.out; clear hown6 hb6 hck)
        have HCI := Lib.hid (fun W (h : Below w1.heap.size w1 W) => HC.out W (HB1.out.trans (h.mono HB1.out.size)))
        have HRI := Lib.hid (fun W (h : Below w1.heap.size w1 W) => HREF.out W (HB1.out.trans (h.mono HB1.out.size)))
        have HDR := Lib.hid (show Below w1.heap.size w1 w1.drew from below_drewN (Below.refl _ _) 1)
        refine wp_region_N (S1 := fun W => Below w1.heap.size w1 W) (S2 := fun _ => True) (N := fun _ => false) (by kernel_rfl) ?_
        change wpAnyN _ _ _ _ _ _ _ 31 (Array.replicate 31 false) _ _
        refine wpAnyN_take false (i := 0) (v := .bool true) rfl (by kernel_rfl) (by kernel_rfl) (by kernel_rfl) (fun _ _ _ h => h) (.inl ⟨by kernel_rfl, fun W hS => ?_⟩) ⟨HDR.out, fun h => by cases h⟩ ?_
        · simp [execOp, Act.eval, go_sem]
        refine wpAnyN_take false (i := 1) (v := .int .i64 0) rfl (by kernel_rfl) (by kernel_rfl) (by kernel_rfl) (fun _ _ _ h => h) (.inl ⟨by kernel_rfl, fun W hS => ?_⟩) ⟨HDR.out, fun h => by cases h⟩ ?_
        · simp [execOp, Act.eval, Act.put, go_sem]
        refine wpAnyN_take false (i := 2) (v := .bool true) rfl (by kernel_rfl) (by kernel_rfl) (by kernel_rfl) (fun _ _ _ h => h) (.inl ⟨by kernel_rfl, fun W hS => ?_⟩) ⟨HDR.out, fun h => by cases h⟩ ?_
        · simp [execOp, Act.eval, Act.put, go_sem]
        refine wpAnyN_take false (i := 3) (v := .bool false) rfl (by kernel_rfl) (by kernel_rfl) (by kernel_rfl) (fun _ _ _ h => h) (.inl ⟨by kernel_rfl, fun W hS => ?_⟩) ⟨HDR.out, fun h => by cases h⟩ ?_
        · simp [execOp, Act.eval, Act.put, go_sem]
        refine wpAnyN_take false (i := 4) (v := .bool false) rfl (by kernel_rfl) (by kernel_rfl) (by kernel_rfl) (fun _ _ _ h => h) (.inl ⟨by kernel_rfl, fun W hS => ?_⟩) ⟨HDR.out, fun h => by cases h⟩ ?_
        · simp [execOp, Act.eval, Act.put, go_sem]
        refine wpAnyN_take false (i := 5) (v := .bool true) rfl (by kernel_rfl) (by kernel_rfl) (by kernel_rfl) (fun _ _ _ h => h) (.inl ⟨by kernel_rfl, fun W hS => ?_⟩) ⟨HDR.out, fun h => by cases h⟩ ?_
        · simp [execOp, Act.eval, Act.put, go_sem]
        refine wpAnyN_take false (i := 6) (v := .bool false) rfl (by kernel_rfl) (by kernel_rfl) (by kernel_rfl) (fun _ _ _ h => h) (.inl ⟨by kernel_rfl, fun W hS => ?_⟩) ⟨HDR.out, fun h => by cases h⟩ ?_
        · simp [execOp, Act.eval, Act.put, go_sem]
        refine wpAnyN_take false (i := 7) (v := .bool false) rfl (by kernel_rfl) (by kernel_rfl) (by kernel_rfl) (fun _ _ _ h => h) (.inl ⟨by kernel_rfl, fun W hS => ?_⟩) ⟨HDR.out, fun h => by cases h⟩ ?_
        · simp [execOp, Act.eval, Act.put, go_sem]
        refine wpAnyN_take false (i := 8) (v := undef) rfl (by kernel_rfl) (by kernel_rfl) (by kernel_rfl) (fun _ _ _ h => h) (.inr ⟨by kernel_rfl, rfl⟩) ⟨HDR.out, fun h => by cases h⟩ ?_
        refine wpAnyN_take false (i := 9) (v := undef) rfl (by kernel_rfl) (by kernel_rfl) (by kernel_rfl) (fun _ _ _ h => h) (.inr ⟨by kernel_rfl, rfl⟩) ⟨HDR.out, fun h => by cases h⟩ ?_
        refine wpAnyN_take false (i := 10) (v := undef) rfl (by kernel_rfl) (by kernel_rfl) (by kernel_rfl) (fun _ _ _ h => h) (.inr ⟨by kernel_rfl, rfl⟩) ⟨HDR.out, fun h => by cases h⟩ ?_
        refine wpAnyN_take false (i := 11) (v := undef) rfl (by kernel_rfl) (by kernel_rfl) (by kernel_rfl) (fun _ _ _ h => h) (.inr ⟨by kernel_rfl, rfl⟩) ⟨HDR.out, fun h => by cases h⟩ ?_
        refine wpAnyN_take false (i := 12) (v := undef) rfl (by kernel_rfl) (by kernel_rfl) (by kernel_rfl) (fun _ _ _ h => h) (.inr ⟨by kernel_rfl, rfl⟩) ⟨HDR.out, fun h => by cases h⟩ ?_
        refine wpAnyN_take false (i := 13) (v := undef) rfl (by kernel_rfl) (by kernel_rfl) (by kernel_rfl) (fun _ _ _ h => h) (.inr ⟨by kernel_rfl, rfl⟩) ⟨HDR.out, fun h => by cases h⟩ ?_
        refine wpAnyN_take false (i := 14) (v := undef) rfl (by kernel_rfl) (by kernel_rfl) (by kernel_rfl) (fun _ _ _ h => h) (.inr ⟨by kernel_rfl, rfl⟩) ⟨HDR.out, fun h => by cases h⟩ ?_
        refine wpAnyN_take false (i := 15) (v := .bool false) rfl (by kernel_rfl) (by kernel_rfl) (by kernel_rfl) (fun _ _ _ h => h) (.inl ⟨by kernel_rfl, fun W hS => ?_⟩) ⟨HDR.out, fun h => by cases h⟩ ?_
        · simp [execOp, Act.eval, Act.put, go_sem]
        refine wpAnyN_take false (i := 16) (v := .bool false) rfl (by kernel_rfl) (by kernel_rfl) (by kernel_rfl) (fun _ _ _ h => h) (.inl ⟨by kernel_rfl, fun W hS => ?_⟩) ⟨HDR.out, fun h => by cases h⟩ ?_
        · simp [execOp, Act.eval, Act.put, go_sem]
        refine wpAnyN_take false (i := 17) (v := .bool false) rfl (by kernel_rfl) (by kernel_rfl) (by kernel_rfl) (fun _ _ _ h => h) (.inl ⟨by kernel_rfl, fun W hS => ?_⟩) ⟨HDR.out, fun h => by cases h⟩ ?_
        · simp [execOp, Act.eval, Act.put, go_sem]
        refine wpAnyN_take false (i := 18) (v := .bool true) rfl (by kernel_rfl) (by kernel_rfl) (by kernel_rfl) (fun _ _ _ h => h) (.inl ⟨by kernel_rfl, fun W hS => ?_⟩) ⟨HDR.out, fun h => by cases h⟩ ?_
        · simp [execOp, Act.eval, Act.put, go_sem]
        refine wpAnyN_take false (i := 19) (v := .bool true) rfl (by kernel_rfl) (by kernel_rfl) (by kernel_rfl) (fun _ _ _ h => h) (.inl ⟨by kernel_rfl, fun W hS => ?_⟩) ⟨HDR.out, fun h => by cases h⟩ ?_
        · simp [execOp, Act.eval, Act.put, go_sem]
        refine wpAnyN_take false (i := 20) (v := v6) rfl (by kernel_rfl) (by kernel_rfl) (by kernel_rfl) (fun _ _ _ h => h) (.inl ⟨by kernel_rfl, fun W hS => ?_⟩) ⟨HDR.out, fun h => by cases h⟩ ?_
        · simp [execOp, Act.eval, Act.put, go_sem]
        refine wpAnyN_take false (i := 21) (v := .string (textOf (sealT xs))) rfl (by kernel_rfl) (by kernel_rfl) (by kernel_rfl) (fun _ _ _ h => h) (.inl ⟨by kernel_rfl, fun W hS => ?_⟩) ⟨HDR.out, fun h => by cases h⟩ ?_
        · simp [execOp, Act.eval, Act.put, go_sem, conv_text (HO6.out.keep hS.1) Try.underlying22 Try.underlying5 Try.underlying9]
        refine wpAnyN_take false (i := 22) (v := .slice (some ⟨b, off, none⟩) L c) rfl (by kernel_rfl) (by kernel_rfl) (by kernel_rfl) (fun _ _ _ h => h) (.inl ⟨by kernel_rfl, fun W hS => ?_⟩) ⟨HDR.out, fun h => by cases h⟩ ?_
        · simp [execOp, Act.eval, Act.put, go_sem]
        refine wpAnyN_take false (i := 23) (v := .int .i64 i) rfl (by kernel_rfl) (by kernel_rfl) (by kernel_rfl) (fun _ _ _ h => h) (.inl ⟨by kernel_rfl, fun W hS => ?_⟩) ⟨HDR.out, fun h => by cases h⟩ ?_
        · simp [execOp, Act.eval, Act.put, go_sem]
        refine wpAnyN_take false (i := 24) (v := .pointer (some ⟨b, off + i, none⟩)) rfl (by kernel_rfl) (by kernel_rfl) (by kernel_rfl) (fun _ _ _ h => h) (.inl ⟨by kernel_rfl, fun W hS => ?_⟩) ⟨HDR.out, fun h => by cases h⟩ ?_
        · simp [execOp, Act.eval, Act.put, go_sem, hiz, hi0z]
        refine wpAnyN_take false (i := 25) (v := .slice A1 n c1) rfl (by kernel_rfl) (by kernel_rfl) (by kernel_rfl) (fun _ _ _ h => h) (.inl ⟨by kernel_rfl, fun W hS => ?_⟩) ⟨HDR.out, fun h => by cases h⟩ ?_
        · simp [execOp, Act.eval, Act.put, go_sem, HCI.out _ hS.1]
        refine wpAnyN_step (i := 26) (by kernel_rfl) rfl (by kernel_rfl) ?_
        intro K' hK
        try simp only [Act.put]
        go_simp
        refine (HRI.out _ HDR.out).mono ?_
        rintro e w2 ⟨v7, rfl, hown7, hb7⟩
        have HO7 := Lib.hid hown7.bytes
        have H7 := Lib.hid (HDR.out.trans (hb7.mono HDR.out.size))
        clear hown7 hb7
        refine hK.out _ _ H7.out (fun h => absurd h (by decide)) ?_
        refine wpAnyN_sharp (S1' := fun W => Below w2.heap.size w2 W) (fun W h => H7.out.trans (h.mono H7.out.size)) _ _ _ _ ?_
        refine wpAnyN_take false (i := 27) (v := .string (textOf (sealT xs))) rfl (by kernel_rfl) (by kernel_rfl) (by kernel_rfl) (fun _ _ _ h => h) (.inl ⟨by kernel_rfl, fun W hS => ?_⟩) ⟨Below.refl _ _, fun h => by cases h⟩ ?_
        · simp [execOp, Act.eval, go_sem, conv_text (HO7.out.keep hS.1) Try.underlying22 Try.underlying5 Try.underlying9]
        refine wpAnyN_take false (i := 28) (v := .bool false) rfl (by kernel_rfl) (by kernel_rfl) (by kernel_rfl) (fun _ _ _ h => h) (.inl ⟨by kernel_rfl, fun W hS => ?_⟩) ⟨Below.refl _ _, fun h => by cases h⟩ ?_
        · simp [execOp, Act.eval, Act.put, go_sem]
        refine wpAnyN_take false (i := 29) (v := .bool false) rfl (by kernel_rfl) (by kernel_rfl) (by kernel_rfl) (fun _ _ _ h => h) (.inl ⟨by kernel_rfl, fun W hS => ?_⟩) ⟨Below.refl _ _, fun h => by cases h⟩ ?_
        · simp [execOp, Act.eval, Act.put, go_sem]
        refine wpAnyN_take false (i := 30) (v := .bool false) rfl (by kernel_rfl) (by kernel_rfl) (by kernel_rfl) (fun _ _ _ h => h) (.inl ⟨by kernel_rfl, fun W hS => ?_⟩) ⟨Below.refl _ _, fun h => by cases h⟩ ?_
        · simp [execOp, Act.eval, Act.put, go_sem]
        refine wpAnyN_done (by kernel_rfl) ?_
        try simp only [Act.put]
        try go_simp
        have HR2 := Lib.hid ((HR.out.keep (HC6.out.trans (H7.out.mono HC6.out.size))))
        have HB2 := Lib.hid (HB1.out.trans (H7.out.mono HB1.out.size))
        have hsz2 := HB2.out.size
        have HO6' := Lib.hid (HO6.out.keep H7.out)
        have hpos : 0 < (sealT xs).length := by have := HSL.out; omega
        obtain ⟨A6, n6, c6, rfl⟩ : ∃ A n c, v6 = .slice A n c := by obtain ⟨A, c, e, _⟩ := HO6'.out; exact ⟨A, _, c, e⟩
        obtain ⟨b6, o6, rfl⟩ := bytes_some HO6'.out hpos
        have HFL := Lib.hid (show (flatT (goods ls i)).length ≤ 2440 by have h1 := flatT_length (goods ls i) (fun p hp => (HGM.out p hp).2); have h2 := HGL.out; omega)
        have HCOND1 := Lib.hid (show (flatT (goods ls i)).length + (sealT xs).length ≤ 1000000 by have := HFL.out; have := HSL.out; have := HXL.out; omega)
        have hck2 := HC.out w2 HB2.out
        clear hck1 hpos HO6 HO7 HRI HCI HDR H7 HREF HSG HC6
        go_wp2_with (at_builtin; refine wpList_append_bytes_at rfl _ _ 22 rfl w.heap.size Try.underlying22 Try.infoByte _ (flatT (goods ls i)) rfl HR2.out.a b6 o6 n6 c6 (sealT xs) rfl HO6'.out HCOND1.out hsz2 ?_)
        intro v3 w3 hown3 hg3 hloc3
        have HR3 := Lib.hid (HR2.out.first hown3 hg3 hloc3)
        have HB3 := Lib.hid (HB2.out.trans (below_grown hg3 hsz2 HR2.out.a.base))
        have hsz3 := HB3.out.size
        have hck3 := HC.out w3 HB3.out
        have HE3 := Lib.hid (show Below w3.heap.size w3 (w3.alloc (.cells #[.slice A1 n c1] 22)) from (Below.refl _ _).alloc (Nat.le_refl _) _)
        have HR4 := Lib.hid (HR3.out.keep HE3.out)
        have HC1 : Hid (∀ j u, [Value.slice A1 n c1][j]? = some u → (w3.alloc (.cells #[.slice A1 n c1] 22)).cell? ((⟨w3.heap.size, 0, none⟩ : Addr).add j) = some u) := Lib.hid (World.news_of_block (heap_alloc_new w3 _))
        have HC2 : Hid (∀ u ∈ [Value.slice A1 n c1], u.oneCell' = true) := Lib.hid (fun u hu => by rw [List.mem_singleton.1 hu]; rfl)
        have hml : ((goods ls i).map Prod.fst).length ≤ 20 := by rw [List.length_map]; have := HGL.out; omega
        have HC3 := Lib.hid (show ((goods ls i).map Prod.fst).length + 1 ≤ maxLen by unfold maxLen; omega)
        have HC4 := Lib.hid (show (((goods ls i).map Prod.fst).length + 1) * 24 ≤ 140737488355328 by omega)
        have HC5 := Lib.hid (show w.heap.size ≤ (w3.alloc (.cells #[.slice A1 n c1] 22)).heap.size from Nat.le_trans hsz3 (Nat.le_of_lt (by simp)))
        clear hown3 hg3 hloc3 hck2 hml HR2
        go_wp2_with (at_builtin; refine wpList_append_own_at _ rfl _ _ 37 rfl w.heap.size 22 i0 (.slice none 0 0) 1 24 Try.underlying37 hi0 hz0 hz1 hz2 rfl (by decide) _ _ _ rfl HR4.out.b ⟨w3.heap.size, 0, none⟩ 1 1 [.slice A1 n c1] rfl rfl HC1.out HC2.out HC3.out HC4.out HC5.out ?_)
        intro v4 w4 hown4 hg4 _ hloc4
        have HR5 := Lib.hid (HR4.out.second (us' := (goods ls i).map Prod.fst ++ [.slice A1 n c1]) (by rw [List.length_append, List.length_map]; exact hown4) hg4 (by rw [World.size_alloc]; exact hloc4))
        have HB5 := Lib.hid ((HB3.out.trans (HE3.out.mono hsz3)).trans (below_grown hg4 HC5.out (own_base HR4.out.b)))
        clear hown4 hg4 hloc4 hck3
        go_wp2_with fail
        go_roundg (L - (i + 1))
        case measure => exact KME.out
        case rel =>
          refine ⟨i + 1, by rw [HL.out]; omega, by omega, by rw [HL.out], by go_num, HB5.out, ?_⟩
          rw [HGY.out, flatT_append, flatT_one, List.map_append]
          exact HR5.out
    · have hex : ¬ (i : Int) < (L : Int) ∨ ¬ (i : Int) < 20 := by omega
      have HGL := Lib.hid (goods_le ls i)
      have HGM := Lib.hid (fun p h => goods_mem (ls := ls) (k := i) (p := p) h)
      have hfl : (flatT (goods ls i)).length ≤ 2440 := by have h1 := flatT_length (goods ls i) (fun p hp => (HGM.out p hp).2); have h2 := HGL.out; omega
      have HS := Lib.hid (split_any _ _ wr HR.out.a.bytes (by omega))
      rw [split_goods (fun p hp => (HGM.out p hp).2)] at HS
      obtain ⟨A4, c4, rfl, h4⟩ := row_cells HR.out.b
      have HW4 := Lib.hid h4
      have HRL := Lib.hid (recsT_length (goods ls i) 0)
      have HRA := Lib.hid (recsT_at (goods ls i) 0)
      have HML : Hid (((goods ls i).map Prod.fst).length = (goods ls i).length) := Lib.hid (List.length_map _)
      generalize hus : (goods ls i).map Prod.fst = us at *
      have HUS := Lib.hid hus
      rw [HML.out] at *
      clear hfl h4 hus
      generalize hm : (goods ls i).length = m at *
      have HM := Lib.hid hm
      clear hm
      by_cases hx : i < L
      · have z1 : (i : Int) < (L : Int) := by omega
        have z1' : decide ((i : Int) < (L : Int)) = true := decide_eq_true z1
        have z2 : ¬ (i : Int) < 20 := by omega
        have z2' : decide ((i : Int) < 20) = false := decide_eq_false z2
        clear hex hx
        go_wp2_with fail
        refine HS.out.mono ?_
        rintro e w3 ⟨v9, l, rfl, hm9, hra, hb9⟩
        have HM9 := Lib.hid hm9
        have HB9 := Lib.hid (HB.out.trans (hb9.mono hsz))
        have HC9 := Lib.hid hb9
        have hl9 : l.length = m := by rw [← List.length_map (f := Prod.fst), hm9, HRL.out]
        obtain ⟨A9, c9, rfl, q1, q2, q3, q4⟩ := hra
        rw [hl9] at *
        have HAT9 := Lib.hid q3
        have HBD9 := Lib.hid q4
        clear hm9 hb9 q3 q4 hl9 HS
        go_wp2_with fail
        go_loopg [10] m (fun g s10 wr' => BackRel2 m w3 g s10 wr')
        case atStart => exact ⟨0, Nat.zero_le _, rfl, rfl, Below.refl _ _⟩
        case round =>
          obtain ⟨j, hj, hgk, rfl, hbw⟩ := hrel
          have HG2 := Lib.hid hgk
          have HBW := Lib.hid hbw
          clear hgk
          by_cases hlt : j < m
          · obtain ⟨g9, hA9, hg9, hcell9⟩ := HAT9.out (by omega)
            subst hA9
            obtain ⟨g4, hA4, _, hg4, hcell4⟩ := HW4.out (by rw [← HUS.out, List.length_map, HM.out]; omega)
            subst hA4
            obtain ⟨p, hp⟩ := ex_at (xs := goods ls i) (k := j) (by rw [HM.out]; exact hlt)
            have hpm := (HGM.out p (List.mem_of_getElem? hp)).1
            have hup : us[j]? = some p.1 := by rw [← HUS.out, List.getElem?_map, hp]; rfl
            obtain ⟨b', n', hrj⟩ := HRA.out j p hp
            obtain ⟨u, hlu⟩ := fst_at HM9.out hrj
            obtain ⟨_, _, k2, k3⟩ := hcell9 j _ hlu
            have j2 := (hbw.cell (p := ⟨g9, j * 4 + 2, none⟩) hg9).trans k2
            have j3 := (hbw.cell (p := ⟨g9, j * 4 + 3, none⟩) hg9).trans k3
            have m4 := ((HC9.out.trans (hbw.mono HC9.out.size)).cell (p := ⟨g4, j, none⟩) hg4).trans (hcell4 j _ hup)
            have e1 : BytesAt _ u p.2 := (HBD9.out _ (List.mem_of_getElem? hlu)).keep hbw
            have e2 : BytesAt _ p.1 p.2 := (HBY.out p hpm).keep (HB9.out.trans (hbw.mono HB9.out.size))
            have hcv1 := fun m => conv_text (e1.keep (below_drewN (Below.refl _ _) m)) Try.underlying22 Try.underlying5 Try.underlying9
            have hcv2 := fun m => conv_text (e2.keep (below_drewN (Below.refl _ _) m)) Try.underlying22 Try.underlying5 Try.underlying9
            obtain ⟨pv, xs⟩ := p
            simp only at j2 j3 m4 hcv1 hcv2 e1 e2
            obtain ⟨B1, d1, rfl, _⟩ := e1
            obtain ⟨B2, d2, rfl, _⟩ := e2
            generalize textOf xs = X at *
            generalize xs.length = bl at *
            have j3' : _ = some (Value.int IntKind.i64 0) := j3
            have hjz : (j : Int) < (m : Int) := by omega
            have hj0 : (0 : Int) ≤ (j : Int) := by omega
            clear hcell9 hcell4 hp hpm hup hrj hlu k2 k3 hbw j3
            go_wp2_with fail
            go_quiet (fail)
            go_wp2_with fail
            go_roundg (m - (j + 1))
            case measure => have := HG2.out; omega
            case rel => exact ⟨j + 1, by omega, rfl, by go_num, below_drewN HBW.out _⟩
          · have hjz : ¬ (j : Int) < (m : Int) := by omega
            clear hbw
            go_wp2_with (go_at_call 8; refine (HAW.out _).mono ?_; rintro e w' ⟨rfl, hb⟩)
            go_ret
            exact ⟨rfl, over2 (HB9.out.trans (HBW.out.mono HB9.out.size)) hb⟩
      · have z1 : ¬ (i : Int) < (L : Int) := by omega
        have z1' : decide ((i : Int) < (L : Int)) = false := decide_eq_false z1
        clear hex hx
        go_wp2_with fail
        refine HS.out.mono ?_
        rintro e w3 ⟨v9, l, rfl, hm9, hra, hb9⟩
        have HM9 := Lib.hid hm9
        have HB9 := Lib.hid (HB.out.trans (hb9.mono hsz))
        have HC9 := Lib.hid hb9
        have hl9 : l.length = m := by rw [← List.length_map (f := Prod.fst), hm9, HRL.out]
        obtain ⟨A9, c9, rfl, q1, q2, q3, q4⟩ := hra
        rw [hl9] at *
        have HAT9 := Lib.hid q3
        have HBD9 := Lib.hid q4
        clear hm9 hb9 q3 q4 hl9 HS
        go_wp2_with fail
        go_loopg [10] m (fun g s10 wr' => BackRel2 m w3 g s10 wr')
        case atStart => exact ⟨0, Nat.zero_le _, rfl, rfl, Below.refl _ _⟩
        case round =>
          obtain ⟨j, hj, hgk, rfl, hbw⟩ := hrel
          have HG2 := Lib.hid hgk
          have HBW := Lib.hid hbw
          clear hgk
          by_cases hlt : j < m
          · obtain ⟨g9, hA9, hg9, hcell9⟩ := HAT9.out (by omega)
            subst hA9
            obtain ⟨g4, hA4, _, hg4, hcell4⟩ := HW4.out (by rw [← HUS.out, List.length_map, HM.out]; omega)
            subst hA4
            obtain ⟨p, hp⟩ := ex_at (xs := goods ls i) (k := j) (by rw [HM.out]; exact hlt)
            have hpm := (HGM.out p (List.mem_of_getElem? hp)).1
            have hup : us[j]? = some p.1 := by rw [← HUS.out, List.getElem?_map, hp]; rfl
            obtain ⟨b', n', hrj⟩ := HRA.out j p hp
            obtain ⟨u, hlu⟩ := fst_at HM9.out hrj
            obtain ⟨_, _, k2, k3⟩ := hcell9 j _ hlu
            have j2 := (hbw.cell (p := ⟨g9, j * 4 + 2, none⟩) hg9).trans k2
            have j3 := (hbw.cell (p := ⟨g9, j * 4 + 3, none⟩) hg9).trans k3
            have m4 := ((HC9.out.trans (hbw.mono HC9.out.size)).cell (p := ⟨g4, j, none⟩) hg4).trans (hcell4 j _ hup)
            have e1 : BytesAt _ u p.2 := (HBD9.out _ (List.mem_of_getElem? hlu)).keep hbw
            have e2 : BytesAt _ p.1 p.2 := (HBY.out p hpm).keep (HB9.out.trans (hbw.mono HB9.out.size))
            have hcv1 := fun m => conv_text (e1.keep (below_drewN (Below.refl _ _) m)) Try.underlying22 Try.underlying5 Try.underlying9
            have hcv2 := fun m => conv_text (e2.keep (below_drewN (Below.refl _ _) m)) Try.underlying22 Try.underlying5 Try.underlying9
            obtain ⟨pv, xs⟩ := p
            simp only at j2 j3 m4 hcv1 hcv2 e1 e2
            obtain ⟨B1, d1, rfl, _⟩ := e1
            obtain ⟨B2, d2, rfl, _⟩ := e2
            generalize textOf xs = X at *
            generalize xs.length = bl at *
            have j3' : _ = some (Value.int IntKind.i64 0) := j3
            have hjz : (j : Int) < (m : Int) := by omega
            have hj0 : (0 : Int) ≤ (j : Int) := by omega
            clear hcell9 hcell4 hp hpm hup hrj hlu k2 k3 hbw j3
            go_wp2_with fail
            go_quiet (fail)
            go_wp2_with fail
            go_roundg (m - (j + 1))
            case measure => have := HG2.out; omega
            case rel => exact ⟨j + 1, by omega, rfl, by go_num, below_drewN HBW.out _⟩
          · have hjz : ¬ (j : Int) < (m : Int) := by omega
            clear hbw
            go_wp2_with (go_at_call 8; refine (HAW.out _).mono ?_; rintro e w' ⟨rfl, hb⟩)
            go_ret
            exact ⟨rfl, over2 (HB9.out.trans (HBW.out.mono HB9.out.size)) hb⟩
end Go.Proofs.Ytlnheknhdabhdaa
