/-
  The first core that has room, as the program tells it of any plan.
  Conditions: the slice reads as places; the numbers are of their kinds.
-/
import Derived.Test.YtiadnpipbocecaaGreatM23
import Derived.Test.YtiadnpipbocecaaGreatM25
import Derived.Test.YtiadnpipbocecaaGreatM15
import Derived.Test.YtiadnpipbocecaaGreatM18

/-
  First fit by falling sizes, of the document.
  Conditions: the slices read as places, as wants; the numbers are of their kinds; the wants may be placed; both are short.
-/
set_option linter.unusedVariables false
set_option linter.unusedSimpArgs false
namespace Go.Proofs.YtiadnpipbocecaaGreat
open Go.RowKit

theorem FitSt.putG {f : Int} {m base F : Nat} {w6 w' W : World} {so v v' : Value} {l l' : List Pl} {over : List Sp} (h : FitSt f m base F w6 w' so v l over) (hb : Below w'.heap.size w' W) (hp : PlsIn (fun b => (base ≤ b ∧ b ≠ F ∧ so.ownBlock ≠ some b) ∨ w'.heap.size ≤ b) W v' l') (hF : F < w6.heap.size) (hbase : base ≤ w'.heap.size := by omega) :
    FitSt f m base F w6 (W.setRow F #[.int .i64 f, .int .u32 m, v']) so v' l' over := by
  have hk := h.keep hb
  have hlt := heap_lt h.box
  refine ⟨hk.apart.trans (F' := fun b => b = F) ⟨rfl, rfl, rfl, by simp, fun k _ hne => setRow_other _ _ _ _ hne⟩ (fun x _ e => e), setRow_heap _ _ _ _ _ _ hk.box, ?_, own_keep hk.own fun k hv => setRow_other _ _ _ _ ?_⟩
  · refine (PlsIn.setRow hp (N := F) (.inl fun e => ?_)).mono fun b _ hF' => ?_
    · rcases e with e | e
      · exact e.2.1 rfl
      · omega
    · rcases hF' with hF' | hF'
      · exact hF'
      · refine ⟨by omega, by omega, fun e => ?_⟩
        have := own_lt h.own e
        omega
  · have := own_base5 hk.own k hv
    omega
theorem cell_set_neR {W : World} {g F : Nat} (h : g ≠ F) (o : Nat) (cs : Array Value) : (W.setRow F cs).cell? ⟨g, o, none⟩ = W.cell? ⟨g, o, none⟩ := cell_same (setRow_other _ _ _ _ h) o
/-- What the document's Fit answers. -/
def RetFitR (f : Int) (m : Nat) (l : List Pl) (ws : List Sp) (w : World) (e : Ending) (w' : World) : Prop :=
  ∃ v vo, e = .returned (.tuple #[planA f m v, vo]) ∧ PlsAt w' v (fitT f m l (sortT ws)).1 ∧ SpansAt w' vo (fitT f m l (sortT ws)).2 ∧ Below w.heap.size w w'

set_option maxRecDepth 100000 in
set_option maxHeartbeats 8000000 in
theorem refFit_any (f : Int) (m : Nat) (v : Value) (l : List Pl) (vw : Value) (ws : List Sp) (w : World) (h : PlsAt w v l) (hL : LightL l) (hw : SpansAt w vw ws) (hg : Goes f m l ws) (hl : l.length + ws.length ≤ 300) :
    Calls Tryz.prog 12 #[planA f m v, vw] w (RetFitR f m l ws w) := by
  have mixed : Tryz.prog.follows .mixedOrders = true := by kernel_rfl
  obtain ⟨i0, hi0, hz0, hz1, hz2⟩ := info_parts Tryz.infoSpan
  have HSO := Lib.hid (fun w h => refSort_any vw ws w h (by omega))
  have HOK := Lib.hid hL.ok
  have HH := Lib.hid h
  have HW := Lib.hid hw
  have HLL := Lib.hid hl
  have HINV := Lib.hid (fun k hk => hg.inv (k := k) hk)
  have HSL := Lib.hid (sortT_length ws)
  have HWO := Lib.hid ((WOk.of_chk hg.chk).2.perm (sortT_perm ws))
  obtain ⟨w1, F, hw1, hF, hFl, hb1, hbox⟩ := box_any w #[.int .i64 f, .int .u32 m, v] 25
  obtain ⟨w2, R, hw2, hR, hRl, hb2, hrox⟩ := box_any w1 #[.int .i64 0, .int .u32 0, .slice none 0 0] 25
  have HB2 := Lib.hid (hb1.trans (hb2.mono hb1.size))
  obtain ⟨w3, E, hw3, hE, hEl, hb3, hebx⟩ := box_any w2 #[] 45
  have HB3 := Lib.hid (HB2.out.trans (hb3.mono HB2.out.size))
  have HFB3 := Lib.hid (keep_block (keep_block hbox hb2) hb3)
  have HRB2 := Lib.hid hrox
  have HRB3 := Lib.hid (keep_block hrox hb3)
  have HOE : Hid (w3.ownsRow w2.heap.size 45 2 (.slice (some ⟨E, 0, none⟩) 0 0) 0 []) := Lib.hid (by
    have := own_emptyW w2 45
    rw [hw3, hE] at this
    rw [hE]
    exact this)
  have HLT := Lib.hid (show w.heap.size ≤ F ∧ F < R ∧ R < w2.heap.size ∧ w2.heap.size ≤ E by have := hb1.size; omega)
  obtain ⟨f0, f1, f2⟩ := three_heads HFB3.out
  clear h hL hw hl hg hb1 hb2 hb3 hbox hrox hebx
  unfold planA
  go_enter Tryz.func12, Tryz.ntmps12
  go_wp2_with fail
  refine (HSO.out _ (HW.out.keep HB3.out)).mono ?_
  rintro e w6 ⟨v6, rfl, hown6, hb6⟩
  obtain ⟨A6, c6, hv6⟩ := own_form hown6
  obtain ⟨srt, hsrt⟩ : ∃ srt, sortT ws = srt := ⟨_, rfl⟩
  rw [hsrt] at hown6 hv6 HINV HSL HWO
  have HSR := Lib.hid hsrt
  obtain ⟨n, hn⟩ : ∃ n, srt.length = n := ⟨_, rfl⟩
  rw [hn] at hv6
  have HN := Lib.hid hn
  have HAT : Hid (0 < n → ∃ g, A6 = some ⟨g, 0, none⟩ ∧ w3.heap.size ≤ g ∧ g < w6.heap.size ∧ n ≤ c6 ∧ ∀ j p, srt[j]? = some p → PairAt w6 g (j * 2) p) := Lib.hid fun h0 => by
    obtain ⟨g, cap, e1, e2, e3, e4, e5, e6, _⟩ := own_lies hown6 (by omega)
    rw [hv6] at e1
    injection e1 with e7 e8 e9
    subst e9
    exact ⟨g, e7, e2, e3, by omega, e6⟩
  subst hv6
  have HB6 := Lib.hid (HB3.out.trans (hb6.mono HB3.out.size))
  have HF6 := Lib.hid (show F < w2.heap.size by have := HLT.out; omega)
  have HRB6 := Lib.hid (keep_block HRB3.out hb6)
  have HST0 : Hid (FitSt f m 0 F w2 w6 (.slice (some ⟨E, 0, none⟩) 0 0) v l []) := Lib.hid ⟨(Apart.of_below (F := fun b => b = F) (show Below w2.heap.size w2 w3 by rw [← hw3]; exact (Below.refl _ _).alloc (Nat.le_refl _) _)).trans (F' := fun b => b = F) ((Apart.of_below (F := fun b => b = F) hb6)) (fun x _ e => e), keep_block HFB3.out hb6, ((HH.out.mono (G := fun b => b < w.heap.size) fun b hb _ => hb).keep HB6.out).mono fun b _ hb => ⟨Nat.zero_le _, by have := HLT.out; omega, fun e => by
    have e1 : E = b := by simpa [Value.ownBlock] using e
    have := HLT.out
    have := HB2.out.size
    omega⟩, own_below5 HOE.out hb6⟩
  have hnw : n = ws.length := by have := HSL.out; have := HN.out; omega
  have HNW := Lib.hid hnw
  clear hnw
  have HEG : Hid (∀ g, A6 = some ⟨g, 0, none⟩ → w3.heap.size ≤ g → (Value.slice (some ⟨E, 0, none⟩) 0 0).ownBlock ≠ some g) := Lib.hid (fun g _ hg e => by
    have e1 : E = g := by simpa [Value.ownBlock] using e
    omega)
  have HG3 := Lib.hid (show w2.heap.size ≤ w3.heap.size by omega)
  have hnl : n ≤ 300 := by have := HSL.out; have := HLL.out; have := HNW.out; omega
  clear hown6 hb6 hn hsrt hw1 hF hw2 hR hw3 hE f0 f1 f2
  go_wp2_with fail
  go_loopg [6, 8, 9] n (fun gg s6 s8 _ wr => ∃ (k : Nat) (vp : Value), k ≤ n ∧ gg = n - k ∧ s8 = .int .i64 k ∧ FitSt f m 0 F w2 wr s6 vp (fitT f m l (srt.take k)).1 (fitT f m l (srt.take k)).2 ∧ Hid (∀ g, A6 = some ⟨g, 0, none⟩ → w3.heap.size ≤ g → g < w6.heap.size → s6.ownBlock ≠ some g ∧ wr.heap[g]? = w6.heap[g]?))
  case atStart => exact ⟨0, _, Nat.zero_le _, by omega, rfl, HST0.out, Lib.hid (fun g h1 h2 _ => ⟨HEG.out g h1 h2, rfl⟩)⟩
  case round =>
    obtain ⟨k, vp, hk, hg, rfl, hst, HGB⟩ := hrel
    have HG := Lib.hid hg
    have hinv := HINV.out k (by have := HNW.out; omega)
    have hlen := hinv.len
    rw [List.length_take, Nat.min_eq_left (by have := HN.out; omega)] at hlen
    obtain ⟨wo, rfl⟩ : ∃ wo : World, wo = wr := ⟨_, rfl⟩
    by_cases hlt : k < n
    · have hltz : (k : Int) < (n : Int) := by omega
      have hk0 : (0 : Int) ≤ (k : Int) := by omega
      obtain ⟨y, hy⟩ := ex_at (xs := srt) (k := k) (by rw [HN.out]; exact hlt)
      have HSTEP := Lib.hid (fitT_take (f := f) (m := m) (l := l) hy)
      have hyok := HWO.out.all y (List.mem_of_getElem? hy)
      obtain ⟨g, hA, hg5, hg6, hnc, hcell⟩ := HAT.out (by omega)
      have hgb := HGB.out g hA hg5 hg6
      subst hA
      obtain ⟨c1, c2⟩ := hcell k y hy
      have hglt : g < wo.heap.size := by
        have h1 : w6.heap[g]? = some w6.heap[g] := Array.getElem?_eq_getElem hg6
        exact heap_lt (hgb.2.trans h1)
      have c1 := (cell_same hgb.2 (k * 2)).trans c1
      have c2 := (cell_same hgb.2 (k * 2 + 1)).trans c2
      have HST := Lib.hid hst
      have HSG : Hid (∀ W, Below wo.heap.size wo W → W.cell? ⟨g, k * 2, none⟩ = some (.int .i64 y.1) ∧ W.cell? ⟨g, k * 2 + 1, none⟩ = some (.int .i64 y.2)) := Lib.hid (fun W hk => ⟨(hk.cell (p := ⟨g, k * 2, none⟩) hglt).trans c1, (hk.cell (p := ⟨g, k * 2 + 1, none⟩) hglt).trans c2⟩)
      have HSF : Hid (∀ W, Below wo.heap.size wo W → W.cell? ⟨F, 0, none⟩ = some (.int .i64 f) ∧ W.cell? ⟨F, 1, none⟩ = some (.int .u32 m) ∧ W.cell? ⟨F, 2, none⟩ = some vp) := Lib.hid (fun W hk => three_heads (keep_block HST.out.box hk))
      have HSC : Hid (∀ W, Below wo.heap.size wo W → W.cell? ⟨F, 0, none⟩ = some (.int .i64 f) ∧ W.cell? ⟨F, 1, none⟩ = some (.int .u32 m) ∧ W.cell? ⟨F, 2, none⟩ = some vp ∧ W.cell? ⟨g, k * 2 + 1, none⟩ = some (.int .i64 y.2)) := Lib.hid (fun W hk => by
        obtain ⟨a0, a1, a2⟩ := HSF.out W hk
        exact ⟨a0, a1, a2, (HSG.out W hk).2⟩)
      have hgF : g ≠ F := by have := HF6.out; have := HG3.out; omega
      have HGF := Lib.hid hgF
      have HGN := Lib.hid (show w3.heap.size ≤ g ∧ g < w6.heap.size from ⟨hg5, hg6⟩)
      have HGL := Lib.hid hglt
      have hkd := (Below.refl wo.heap.size wo).drew
      have hstd := hst.keep hkd
      generalize fitT f m l (srt.take k) = st at *
      obtain ⟨L, O⟩ := st
      simp only at hinv hlen hst hstd HST HSTEP
      have hLL : LightL L := ⟨by have := HLL.out; have := HNW.out; omega, hinv.ok HOK.out⟩
      have HFR := Lib.hid (refFirst_any f m vp L y.2 wo.drew hstd.pls.any hLL hinv.right hyok.2.1)
      have HR := Lib.hid hinv.right
      have HLI := Lib.hid hLL
      have HOL := Lib.hid (show O.length ≤ 300 by have := HLL.out; have := HNW.out; omega)
      have HLE := Lib.hid (show L.length ≤ 999 by have := HLL.out; have := HNW.out; omega)
      obtain ⟨o, ho⟩ : ∃ o, firstR f m L y.2 = o := ⟨_, rfl⟩
      rw [ho] at HFR
      have HO := Lib.hid ho
      unfold planA at HFR
      clear hg hst hstd hinv hlen hy hyok hcell hLL ho hgb c1 c2 hg5 hg6 hglt hgF
      cases o with
      | none =>
        have HS1 : Hid (fitT f m l (srt.take (k + 1)) = (L, O ++ [y])) := Lib.hid (HSTEP.out.trans (fitS_none (st := (L, O)) (w := y) HO.out))
        unfold coreR at HFR
        simp only at HFR
        go_wp2_with fail
        refine wp_region_held_drew (S := fun w' => w'.cell? ⟨F, 0, none⟩ = some (.int .i64 f) ∧ w'.cell? ⟨F, 1, none⟩ = some (.int .u32 m) ∧ w'.cell? ⟨F, 2, none⟩ = some (vp) ∧ w'.cell? ⟨g, k * 2 + 1, none⟩ = some (.int .i64 y.2)) (by kernel_rfl) ?_ (fun hHeld => ?_)
        · exact HSC.out _ hkd
        refine wpAnyH_take (i := 0) (oi := ⟨some 19, _, _, _, _, _⟩) (v := ?_) rfl (by kernel_rfl) (by kernel_rfl) (by kernel_rfl) (fun _ _ _ h => h) (Or.inl ⟨by kernel_rfl, ?_⟩) (by assumption) ?_
        rotate_left
        · (intro w hSw; (try dsimp only at hSw); go_simp; try with_reducible rfl)
        (try simp only [Act.put, List.setIfInBounds_toArray, List.set_cons_zero, List.set_cons_succ])
        refine wpAnyH_take (i := 1) (oi := ⟨some 20, _, _, _, _, _⟩) (v := ?_) rfl (by kernel_rfl) (by kernel_rfl) (by kernel_rfl) (fun _ _ _ h => h) (Or.inl ⟨by kernel_rfl, ?_⟩) (by assumption) ?_
        rotate_left
        · (intro w hSw; (try dsimp only at hSw); go_simp; try with_reducible rfl)
        (try simp only [Act.put, List.setIfInBounds_toArray, List.set_cons_zero, List.set_cons_succ])
        refine wpAnyH_take (i := 2) (oi := ⟨some 21, _, _, _, _, _⟩) (v := ?_) rfl (by kernel_rfl) (by kernel_rfl) (by kernel_rfl) (fun _ _ _ h => h) (Or.inl ⟨by kernel_rfl, ?_⟩) (by assumption) ?_
        rotate_left
        · (intro w hSw; (try dsimp only at hSw); go_simp; try with_reducible rfl)
        (try simp only [Act.put, List.setIfInBounds_toArray, List.set_cons_zero, List.set_cons_succ])
        refine wpAnyH_take (i := 3) (oi := ⟨some 22, _, _, _, _, _⟩) (v := ?_) rfl (by kernel_rfl) (by kernel_rfl) (by kernel_rfl) (fun _ _ _ h => h) (Or.inl ⟨by kernel_rfl, ?_⟩) (by assumption) ?_
        rotate_left
        · (intro w hSw; (try dsimp only at hSw); go_simp; try with_reducible rfl)
        (try simp only [Act.put, List.setIfInBounds_toArray, List.set_cons_zero, List.set_cons_succ])
        refine wpAnyH_take (i := 4) (oi := ⟨some 23, _, _, _, _, _⟩) (v := ?_) rfl (by kernel_rfl) (by kernel_rfl) (by kernel_rfl) (fun _ _ _ h => h) (Or.inl ⟨by kernel_rfl, ?_⟩) (by assumption) ?_
        rotate_left
        · (intro w hSw; (try dsimp only at hSw); go_simp; try with_reducible rfl)
        (try simp only [Act.put, List.setIfInBounds_toArray, List.set_cons_zero, List.set_cons_succ])
        refine wpAnyH_take (i := 5) (oi := ⟨some 24, _, _, _, _, _⟩) (v := ?_) rfl (by kernel_rfl) (by kernel_rfl) (by kernel_rfl) (fun _ _ _ h => h) (Or.inl ⟨by kernel_rfl, ?_⟩) (by assumption) ?_
        rotate_left
        · (intro w hSw; (try dsimp only at hSw); go_simp; try with_reducible rfl)
        (try simp only [Act.put, List.setIfInBounds_toArray, List.set_cons_zero, List.set_cons_succ])
        refine wpAnyH_ready (rs := [6]) (by kernel_rfl) (by simp) ?_
        refine AllReadyH.cons (o := ⟨some 25, _, _, _, _, _⟩) rfl (fun K hK => ?_) AllReadyH.nil
        rw [if_pos (by kernel_rfl)]
        go_simp
        go_at_call 8; refine HFR.out.mono ?_; rintro e w8 ⟨rfl, hb8⟩
        have hkq := hkd.trans (hb8.mono hkd.size)
        refine hK.out _ _ ?_ (fun hHeld => ?_)
        · exact HSC.out _ hkq
        clear hK K
        (try simp only [Act.put, List.setIfInBounds_toArray, List.set_cons_zero, List.set_cons_succ])
        refine wpAnyH_take (i := 7) (oi := ⟨some 9, _, _, _, _, _⟩) (v := ?_) rfl (by kernel_rfl) (by kernel_rfl) (by kernel_rfl) (fun _ _ _ h => h) (Or.inl ⟨by kernel_rfl, ?_⟩) (by assumption) ?_
        rotate_left
        · (intro w hSw; (try dsimp only at hSw); go_simp; try with_reducible rfl)
        (try simp only [Act.put, List.setIfInBounds_toArray, List.set_cons_zero, List.set_cons_succ])
        refine wpAnyH_done (by kernel_rfl) ?_ _
        have HKW := Lib.hid (hkd.trans (hb8.mono hkd.size))
        clear hHeld hb8 hkq hkd
        have HST8 := Lib.hid (HST.out.keep HKW.out)
        obtain ⟨c1, c2⟩ := HSG.out _ HKW.out
        have hsz : w2.heap.size ≤ w8.heap.size := HST8.out.apart.size
        have hle := HOL.out
        have hgl8 : g < w8.heap.size := Nat.lt_of_lt_of_le HGL.out HKW.out.size
        clear HSTEP
        go_wp2_with (at_builtin; refine wpList_append_own_at _ rfl _ _ 26 rfl w2.heap.size 45 i0 (.agg #[.int .i64 0, .int .i64 0]) 2 16 Tryz.underlying26 hi0 hz0 hz1 hz2 rfl (by decide) _ _ _ rfl (HST8.out.own.alloc _) ⟨w8.heap.size, 0, none⟩ 1 1 [.int .i64 y.1, .int .i64 y.2] rfl rfl ?c1 ?c2 ?c3 ?c4 ?c5 ?_)
        case c1 => exact news_two _ _ rfl _ _ _
        case c2 => intro u hu; simp at hu; rcases hu with rfl | rfl <;> rfl
        case c3 => unfold maxLen; omega
        case c4 => omega
        case c5 => simp; omega
        intro v9 w9 hown9 hgrow _ hat
        have hba := (Below.refl w8.heap.size w8).alloc (Nat.le_refl _) (.cells #[.int .i64 y.1, .int .i64 y.2] 45)
        have HST9 := Lib.hid ((HST8.out.keep hba).more (over' := O ++ [y]) (by rw [List.length_append, spansCells_snoc]; exact hown9) hgrow (hat.imp id fun e => e.trans (by simp)) HF6.out)
        have HGB9 : Hid (∀ g', (some ⟨g, 0, none⟩ : Option Addr) = some ⟨g', 0, none⟩ → w3.heap.size ≤ g' → g' < w6.heap.size → v9.ownBlock ≠ some g' ∧ w9.heap[g']? = w6.heap[g']?) := Lib.hid (fun g' e1 e2 e3 => by
          injection e1 with e1
          injection e1 with e1
          subst e1
          obtain ⟨h1, h2⟩ := HGB.out g rfl e2 e3
          have hk8 : w8.heap[g]? = w6.heap[g]? := (HKW.out.block g HGL.out).trans h2
          refine ⟨fun e => ?_, (hgrow.block g (by simp; omega) fun e => h1 e.symm).trans ((hba.block g hgl8).trans hk8)⟩
          rcases hat with hat | hat
          · exact h1 (hat ▸ e)
          · rw [hat] at e
            have := Option.some.inj e
            omega)
        clear hown9 hgrow hsz hat hba c1 c2
        go_wp2_with fail
        go_roundg (n - (k + 1))
        case measure => have := HG.out; omega
        case rel => exact ⟨k + 1, vp, by omega, rfl, by go_num, by rw [HS1.out]; exact HST9.out, HGB9⟩
      | some c =>
        have HS1 : Hid (fitT f m l (srt.take (k + 1)) = (addU L ⟨y.1, y.2, (c : Int), []⟩, O)) := Lib.hid (HSTEP.out.trans (fitS_some (st := (L, O)) (w := y) HO.out))
        have HPU := Lib.hid (fun G w h => refPut_any G f m vp (.slice none 0 0) L ⟨y.1, y.2, (c : Int), []⟩ w h (PcsIn.nil _ _) (by have := HLE.out; omega) (posU (dropT L y.1) y.1) (posU_at _ _ (dropT_asc HR.out.pairs _)))
        unfold planA plA RetPn planA at HPU
        have HAD := Lib.hid (show putPl (dropT L y.1) ⟨y.1, y.2, (c : Int), []⟩ (posU (dropT L y.1) y.1) = addU L ⟨y.1, y.2, (c : Int), []⟩ from rfl)
        rw [HAD.out] at HPU
        have hcn : decide ((c : Int) < 0) = false := decide_eq_false (by omega)
        unfold coreR at HFR
        simp only at HFR
        go_wp2_with fail
        refine wp_region_held_drew (S := fun w' => w'.cell? ⟨F, 0, none⟩ = some (.int .i64 f) ∧ w'.cell? ⟨F, 1, none⟩ = some (.int .u32 m) ∧ w'.cell? ⟨F, 2, none⟩ = some (vp) ∧ w'.cell? ⟨g, k * 2 + 1, none⟩ = some (.int .i64 y.2)) (by kernel_rfl) ?_ (fun hHeld => ?_)
        · exact HSC.out _ hkd
        refine wpAnyH_take (i := 0) (oi := ⟨some 19, _, _, _, _, _⟩) (v := ?_) rfl (by kernel_rfl) (by kernel_rfl) (by kernel_rfl) (fun _ _ _ h => h) (Or.inl ⟨by kernel_rfl, ?_⟩) (by assumption) ?_
        rotate_left
        · (intro w hSw; (try dsimp only at hSw); go_simp; try with_reducible rfl)
        (try simp only [Act.put, List.setIfInBounds_toArray, List.set_cons_zero, List.set_cons_succ])
        refine wpAnyH_take (i := 1) (oi := ⟨some 20, _, _, _, _, _⟩) (v := ?_) rfl (by kernel_rfl) (by kernel_rfl) (by kernel_rfl) (fun _ _ _ h => h) (Or.inl ⟨by kernel_rfl, ?_⟩) (by assumption) ?_
        rotate_left
        · (intro w hSw; (try dsimp only at hSw); go_simp; try with_reducible rfl)
        (try simp only [Act.put, List.setIfInBounds_toArray, List.set_cons_zero, List.set_cons_succ])
        refine wpAnyH_take (i := 2) (oi := ⟨some 21, _, _, _, _, _⟩) (v := ?_) rfl (by kernel_rfl) (by kernel_rfl) (by kernel_rfl) (fun _ _ _ h => h) (Or.inl ⟨by kernel_rfl, ?_⟩) (by assumption) ?_
        rotate_left
        · (intro w hSw; (try dsimp only at hSw); go_simp; try with_reducible rfl)
        (try simp only [Act.put, List.setIfInBounds_toArray, List.set_cons_zero, List.set_cons_succ])
        refine wpAnyH_take (i := 3) (oi := ⟨some 22, _, _, _, _, _⟩) (v := ?_) rfl (by kernel_rfl) (by kernel_rfl) (by kernel_rfl) (fun _ _ _ h => h) (Or.inl ⟨by kernel_rfl, ?_⟩) (by assumption) ?_
        rotate_left
        · (intro w hSw; (try dsimp only at hSw); go_simp; try with_reducible rfl)
        (try simp only [Act.put, List.setIfInBounds_toArray, List.set_cons_zero, List.set_cons_succ])
        refine wpAnyH_take (i := 4) (oi := ⟨some 23, _, _, _, _, _⟩) (v := ?_) rfl (by kernel_rfl) (by kernel_rfl) (by kernel_rfl) (fun _ _ _ h => h) (Or.inl ⟨by kernel_rfl, ?_⟩) (by assumption) ?_
        rotate_left
        · (intro w hSw; (try dsimp only at hSw); go_simp; try with_reducible rfl)
        (try simp only [Act.put, List.setIfInBounds_toArray, List.set_cons_zero, List.set_cons_succ])
        refine wpAnyH_take (i := 5) (oi := ⟨some 24, _, _, _, _, _⟩) (v := ?_) rfl (by kernel_rfl) (by kernel_rfl) (by kernel_rfl) (fun _ _ _ h => h) (Or.inl ⟨by kernel_rfl, ?_⟩) (by assumption) ?_
        rotate_left
        · (intro w hSw; (try dsimp only at hSw); go_simp; try with_reducible rfl)
        (try simp only [Act.put, List.setIfInBounds_toArray, List.set_cons_zero, List.set_cons_succ])
        refine wpAnyH_ready (rs := [6]) (by kernel_rfl) (by simp) ?_
        refine AllReadyH.cons (o := ⟨some 25, _, _, _, _, _⟩) rfl (fun K hK => ?_) AllReadyH.nil
        rw [if_pos (by kernel_rfl)]
        go_simp
        go_at_call 8; refine HFR.out.mono ?_; rintro e w8 ⟨rfl, hb8⟩
        have hkq := hkd.trans (hb8.mono hkd.size)
        refine hK.out _ _ ?_ (fun hHeld => ?_)
        · exact HSC.out _ hkq
        clear hK K
        (try simp only [Act.put, List.setIfInBounds_toArray, List.set_cons_zero, List.set_cons_succ])
        refine wpAnyH_take (i := 7) (oi := ⟨some 9, _, _, _, _, _⟩) (v := ?_) rfl (by kernel_rfl) (by kernel_rfl) (by kernel_rfl) (fun _ _ _ h => h) (Or.inl ⟨by kernel_rfl, ?_⟩) (by assumption) ?_
        rotate_left
        · (intro w hSw; (try dsimp only at hSw); go_simp; try with_reducible rfl)
        (try simp only [Act.put, List.setIfInBounds_toArray, List.set_cons_zero, List.set_cons_succ])
        refine wpAnyH_done (by kernel_rfl) ?_ _
        have HKW := Lib.hid (hkd.trans (hb8.mono hkd.size))
        clear hHeld hb8 hkq hkd
        have HST8 := Lib.hid (HST.out.keep HKW.out)
        have hdr : Below w8.heap.size w8 w8.drew := (Below.refl w8.heap.size w8).drew
        have HPU8 := Lib.hid (HPU.out (fun b => 0 ≤ b ∧ b ≠ F ∧ u6.ownBlock ≠ some b) w8.drew (HST8.out.keep hdr).pls)
        have hkd2 := HKW.out.drew
        clear HSTEP HPU
        go_wp2_with fail
        as_aux_lemma =>
          refine wp_region_N (S1 := fun w' => w'.cell? ⟨g, k * 2, none⟩ = some (.int .i64 y.1) ∧ w'.cell? ⟨g, k * 2 + 1, none⟩ = some (.int .i64 y.2)) (S2 := fun w' => w'.cell? ⟨F, 0, none⟩ = some (.int .i64 f) ∧ w'.cell? ⟨F, 1, none⟩ = some (.int .u32 m) ∧ w'.cell? ⟨F, 2, none⟩ = some vp) (N := fun i => i != 14) (by kernel_rfl) ?_
          change wpAnyN _ _ _ _ _ _ _ 15 (Array.replicate 15 false) _ _
          refine wpAnyN_take true (i := 0) (oi := ⟨some 35, _, _, _, _, _⟩) (v := ?_) rfl (by kernel_rfl) (by kernel_rfl) (by kernel_rfl) (fun _ _ _ h => h) (Or.inl ⟨by kernel_rfl, ?_⟩) ⟨HSG.out _ hkd2, fun _ => HSF.out _ hkd2⟩ ?_
          rotate_left
          · (intro w hSw; obtain ⟨hSa, hSb⟩ := hSw; have hSc := hSb rfl; clear hSb; (try dsimp only at hSa hSc); go_simp; try with_reducible rfl)
          (try simp only [Act.put, List.setIfInBounds_toArray, List.set_cons_zero, List.set_cons_succ])
          refine wpAnyN_take false (i := 1) (oi := ⟨some 36, _, _, _, _, _⟩) (v := ?_) rfl (by kernel_rfl) (by kernel_rfl) (by kernel_rfl) (fun _ _ _ h => h) (Or.inl ⟨by kernel_rfl, ?_⟩) ⟨HSG.out _ hkd2, fun h => (by cases h)⟩ ?_
          rotate_left
          · (intro w hSw; obtain ⟨hSa, hSb⟩ := hSw; clear hSb; (try dsimp only at hSa); go_simp; try with_reducible rfl)
          (try simp only [Act.put, List.setIfInBounds_toArray, List.set_cons_zero, List.set_cons_succ])
          refine wpAnyN_take false (i := 2) (oi := ⟨some 37, _, _, _, _, _⟩) (v := ?_) rfl (by kernel_rfl) (by kernel_rfl) (by kernel_rfl) (fun _ _ _ h => h) (Or.inl ⟨by kernel_rfl, ?_⟩) ⟨HSG.out _ hkd2, fun h => (by cases h)⟩ ?_
          rotate_left
          · (intro w hSw; obtain ⟨hSa, hSb⟩ := hSw; clear hSb; (try dsimp only at hSa); go_simp; try with_reducible rfl)
          (try simp only [Act.put, List.setIfInBounds_toArray, List.set_cons_zero, List.set_cons_succ])
          refine wpAnyN_take false (i := 3) (oi := ⟨some 38, _, _, _, _, _⟩) (v := ?_) rfl (by kernel_rfl) (by kernel_rfl) (by kernel_rfl) (fun _ _ _ h => h) (Or.inl ⟨by kernel_rfl, ?_⟩) ⟨HSG.out _ hkd2, fun h => (by cases h)⟩ ?_
          rotate_left
          · (intro w hSw; obtain ⟨hSa, hSb⟩ := hSw; clear hSb; (try dsimp only at hSa); go_simp; try with_reducible rfl)
          (try simp only [Act.put, List.setIfInBounds_toArray, List.set_cons_zero, List.set_cons_succ])
          refine wpAnyN_take false (i := 4) (oi := ⟨some 39, _, _, _, _, _⟩) (v := ?_) rfl (by kernel_rfl) (by kernel_rfl) (by kernel_rfl) (fun _ _ _ h => h) (Or.inl ⟨by kernel_rfl, ?_⟩) ⟨HSG.out _ hkd2, fun h => (by cases h)⟩ ?_
          rotate_left
          · (intro w hSw; obtain ⟨hSa, hSb⟩ := hSw; clear hSb; (try dsimp only at hSa); go_simp; try with_reducible rfl)
          (try simp only [Act.put, List.setIfInBounds_toArray, List.set_cons_zero, List.set_cons_succ])
          refine wpAnyN_take false (i := 5) (oi := ⟨some 40, _, _, _, _, _⟩) (v := ?_) rfl (by kernel_rfl) (by kernel_rfl) (by kernel_rfl) (fun _ _ _ h => h) (Or.inl ⟨by kernel_rfl, ?_⟩) ⟨HSG.out _ hkd2, fun h => (by cases h)⟩ ?_
          rotate_left
          · (intro w hSw; obtain ⟨hSa, hSb⟩ := hSw; clear hSb; (try dsimp only at hSa); go_simp; try with_reducible rfl)
          (try simp only [Act.put, List.setIfInBounds_toArray, List.set_cons_zero, List.set_cons_succ])
          refine wpAnyN_take false (i := 6) (oi := ⟨some 41, _, _, _, _, _⟩) (v := ?_) rfl (by kernel_rfl) (by kernel_rfl) (by kernel_rfl) (fun _ _ _ h => h) (Or.inl ⟨by kernel_rfl, ?_⟩) ⟨HSG.out _ hkd2, fun h => (by cases h)⟩ ?_
          rotate_left
          · (intro w hSw; obtain ⟨hSa, hSb⟩ := hSw; clear hSb; (try dsimp only at hSa); go_simp; try with_reducible rfl)
          (try simp only [Act.put, List.setIfInBounds_toArray, List.set_cons_zero, List.set_cons_succ])
          refine wpAnyN_take false (i := 7) (oi := ⟨some 42, _, _, _, _, _⟩) (v := ?_) rfl (by kernel_rfl) (by kernel_rfl) (by kernel_rfl) (fun _ _ _ h => h) (Or.inl ⟨by kernel_rfl, ?_⟩) ⟨HSG.out _ hkd2, fun h => (by cases h)⟩ ?_
          rotate_left
          · (intro w hSw; obtain ⟨hSa, hSb⟩ := hSw; clear hSb; (try dsimp only at hSa); go_simp; try with_reducible rfl)
          (try simp only [Act.put, List.setIfInBounds_toArray, List.set_cons_zero, List.set_cons_succ])
          refine wpAnyN_take false (i := 8) (oi := ⟨some 43, _, _, _, _, _⟩) (v := ?_) rfl (by kernel_rfl) (by kernel_rfl) (by kernel_rfl) (fun _ _ _ h => h) (Or.inl ⟨by kernel_rfl, ?_⟩) ⟨HSG.out _ hkd2, fun h => (by cases h)⟩ ?_
          rotate_left
          · (intro w hSw; obtain ⟨hSa, hSb⟩ := hSw; clear hSb; (try dsimp only at hSa); go_simp; try with_reducible rfl)
          (try simp only [Act.put, List.setIfInBounds_toArray, List.set_cons_zero, List.set_cons_succ])
          refine wpAnyN_take false (i := 9) (oi := ⟨some 44, _, _, _, _, _⟩) (v := ?_) rfl (by kernel_rfl) (by kernel_rfl) (by kernel_rfl) (fun _ _ _ h => h) (Or.inl ⟨by kernel_rfl, ?_⟩) ⟨HSG.out _ hkd2, fun h => (by cases h)⟩ ?_
          rotate_left
          · (intro w hSw; obtain ⟨hSa, hSb⟩ := hSw; clear hSb; (try dsimp only at hSa); go_simp; try with_reducible rfl)
          (try simp only [Act.put, List.setIfInBounds_toArray, List.set_cons_zero, List.set_cons_succ])
          refine wpAnyN_take false (i := 10) (oi := ⟨some 45, _, _, _, _, _⟩) (v := ?_) rfl (by kernel_rfl) (by kernel_rfl) (by kernel_rfl) (fun _ _ _ h => h) (Or.inl ⟨by kernel_rfl, ?_⟩) ⟨HSG.out _ hkd2, fun h => (by cases h)⟩ ?_
          rotate_left
          · (intro w hSw; obtain ⟨hSa, hSb⟩ := hSw; clear hSb; (try dsimp only at hSa); go_simp; try with_reducible rfl)
          (try simp only [Act.put, List.setIfInBounds_toArray, List.set_cons_zero, List.set_cons_succ])
          refine wpAnyN_take false (i := 11) (oi := ⟨some 46, _, _, _, _, _⟩) (v := ?_) rfl (by kernel_rfl) (by kernel_rfl) (by kernel_rfl) (fun _ _ _ h => h) (Or.inl ⟨by kernel_rfl, ?_⟩) ⟨HSG.out _ hkd2, fun h => (by cases h)⟩ ?_
          rotate_left
          · (intro w hSw; obtain ⟨hSa, hSb⟩ := hSw; clear hSb; (try dsimp only at hSa); go_simp; try with_reducible rfl)
          (try simp only [Act.put, List.setIfInBounds_toArray, List.set_cons_zero, List.set_cons_succ])
          refine wpAnyN_take false (i := 12) (oi := ⟨some 47, _, _, _, _, _⟩) (v := ?_) rfl (by kernel_rfl) (by kernel_rfl) (by kernel_rfl) (fun _ _ _ h => h) (Or.inl ⟨by kernel_rfl, ?_⟩) ⟨HSG.out _ hkd2, fun h => (by cases h)⟩ ?_
          rotate_left
          · (intro w hSw; obtain ⟨hSa, hSb⟩ := hSw; clear hSb; (try dsimp only at hSa); go_simp; try with_reducible rfl)
          (try simp only [Act.put, List.setIfInBounds_toArray, List.set_cons_zero, List.set_cons_succ])
          refine wpAnyN_step (i := 13) (by kernel_rfl) rfl (by kernel_rfl) ?_
          intro K' hK
          (try simp only [Act.put, List.setIfInBounds_toArray, List.set_cons_zero, List.set_cons_succ])
          go_simp
          go_at_call 32; refine HPU8.out.mono ?_; rintro e w9 ⟨v9, rfl, hpl9, hb9⟩
          obtain ⟨A9, c9, hv9, _, _⟩ := hpl9.form
          obtain ⟨n9, hn9⟩ : ∃ n9, (addU L ⟨y.1, y.2, (c : Int), []⟩).length = n9 := ⟨_, rfl⟩
          rw [hn9] at hv9
          subst hv9
          have hkz := hkd2.trans (hb9.mono hkd2.size)
          refine hK.out _ _ (HSG.out _ hkz) (fun _ _ => (HSF.out _ hkz)) ?_
          clear hK K'
          (try simp only [Act.put, List.setIfInBounds_toArray, List.set_cons_zero, List.set_cons_succ])
          have HB9 := Lib.hid (HST8.out.keep (hdr.trans (hb9.mono hdr.size)))
          have HST9 := Lib.hid (HST8.out.putG (hdr.trans (hb9.mono hdr.size)) (hpl9.mono (G := fun b => (0 ≤ b ∧ b ≠ F ∧ u6.ownBlock ≠ some b) ∨ w8.heap.size ≤ b) fun b _ h => h) HF6.out)
          refine wpAnyN_step (i := 14) (by kernel_rfl) rfl (by kernel_rfl) ?_
          intro K' hK
          (try simp only [Act.put, List.setIfInBounds_toArray, List.set_cons_zero, List.set_cons_succ])
          refine wp_store_row _ _ _ rfl F #[.int .i64 f, .int .u32 m, .slice A9 n9 c9] (by simp [Act.eval, Act.put]) (by simp [Act.eval, Act.put]) 25 _ HB9.out.box (Tryz.sizePn _ _ _) rfl (one3 _ _ _ _ _) ?_
          refine hK.out _ _ (⟨(cell_set_neR HGF.out _ _).trans (HSG.out _ hkz).1, (cell_set_neR HGF.out _ _).trans (HSG.out _ hkz).2⟩) (fun h => by cases h) ?_
          clear hK K'
          (try simp only [Act.put, List.setIfInBounds_toArray, List.set_cons_zero, List.set_cons_succ])
          refine wpAnyN_done (by kernel_rfl) ?_
          have HGB9 : Hid (∀ g', (some ⟨g, 0, none⟩ : Option Addr) = some ⟨g', 0, none⟩ → w3.heap.size ≤ g' → g' < w6.heap.size → u6.ownBlock ≠ some g' ∧ (w9.setRow F #[.int .i64 f, .int .u32 m, .slice A9 n9 c9]).heap[g']? = w6.heap[g']?) := Lib.hid (fun g' e1 e2 e3 => by
            injection e1 with e1
            injection e1 with e1
            subst e1
            obtain ⟨h1, h2⟩ := HGB.out g rfl e2 e3
            exact ⟨h1, (setRow_other _ _ _ _ HGF.out).trans ((hkz.block g HGL.out).trans h2)⟩)
          clear hb9 hpl9 hkz hn9
          go_wp2_with fail
          go_roundg (n - (k + 1))
          case measure => have := HG.out; omega
          case rel => exact ⟨k + 1, _, by omega, rfl, by go_num, by rw [HS1.out]; exact HST9.out, HGB9⟩
    · have hltz : ¬ (k : Int) < (n : Int) := by omega
      have HTK := Lib.hid (show srt.take k = srt from List.take_of_length_le (by rw [HN.out]; omega))
      rw [HTK.out] at hst
      have hRne : ¬ R = F := by have := HLT.out; omega
      have HRB7 := Lib.hid ((hst.apart.block R (by have := HLT.out; omega) hRne).trans HRB2.out)
      have hob : ∀ b, u6.ownBlock = some b → b ≠ R := fun b hb => by have := own_base5 hst.own b hb; have := HLT.out; omega
      have HEND : Hid (RetFitR f m l ws w (.returned (.tuple #[planA f m vp, u6])) (wo.setRow R #[.int .i64 f, .int .u32 m, vp])) := Lib.hid ⟨vp, u6, rfl, by
        rw [HSR.out]
        exact ((pls_not HRB7.out hst.pls).keepF (by simp [World.setRow]) fun b _ hF => setRow_other _ _ _ _ hF.2).any, by
        rw [HSR.out]
        exact spans_of_own (base := w2.heap.size) (e := 45) (own_keep hst.own fun b hb => setRow_other _ _ _ _ (hob b hb)) (by
          have h1 := hinv.len
          have h2 := HLL.out
          have h3 := HSL.out
          rw [HTK.out] at h1
          omega), below_row (HB2.out.trans (hst.apart.below HB2.out.size fun b hb e => by have := HLT.out; omega)) (by have := HLT.out; omega) _⟩
      obtain ⟨Av, cv, hvv, _, _⟩ := hst.pls.form
      obtain ⟨nv, hnv⟩ : ∃ nv, (fitT f m l srt).1.length = nv := ⟨_, rfl⟩
      rw [hnv] at hvv
      subst hvv
      obtain ⟨f0, f1, f2⟩ := three_heads hst.box
      clear hg hst hinv hlen hob hnv
      go_wp2_with (refine wpList_store_row rfl _ _ _ rfl R #[.int .i64 f, .int .u32 m, .slice Av nv cv] rfl rfl 25 _ HRB7.out (Tryz.sizePn _ _ _) rfl (one3 _ _ _ _ _) ?_)
      refine bodyPost_ret (v := .tuple #[planA f m (.slice Av nv cv), u6]) (results_row_tmp rfl _ _ R _ _ _ _ rfl (setRow_heap _ _ _ _ _ _ HRB7.out) Tryz.underlying25 rfl (Tryz.sizePn _ _ _) _ rfl) rfl ?_
      exact HEND.out
end Go.Proofs.YtiadnpipbocecaaGreat

/-
  The first core that has room, as the program tells it of any plan.
  Conditions: the slice reads as places; the numbers are of their kinds.
-/
set_option linter.unusedVariables false
set_option linter.unusedSimpArgs false
namespace Go.Proofs.YtiadnpipbocecaaGreat
open Go.RowKit

set_option maxRecDepth 100000 in
set_option maxHeartbeats 4000000 in
theorem firstP_yes (f : Int) (m : Nat) (v : Value) (l : List Pl) (s : Int) (w : World) (h : PlsAt w v l) (hL : LightL l) (hr : Right f m l) (hs : 1 ≤ s) :
    Calls Tryz.prog 6 #[planA f m v, .int .i64 s] w (RetB (.tuple #[.int .i64 (coreV (firstR f m l s)), .bool (firstR f m l s).isSome]) w) := by
  have hm := hr.m16
  have HPC := Lib.hid (fun w h => planCheck_any f m v l w h hL.wide (by omega))
  have HFI := Lib.hid (fun w h => first_any f m v l s w h hL hr hs)
  have HR := Lib.hid hr
  have HH := Lib.hid h
  unfold planA at HPC HFI
  obtain ⟨w1, P, hw1, hP, hPl, hb1, hbox⟩ := box_any w #[.int .i64 f, .int .u32 m, v] 25
  have HB1 := Lib.hid hb1
  have HBOX := Lib.hid hbox
  obtain ⟨r0, r1, r2⟩ := three_heads hbox
  have hsd : decide (s < 1) = false := decide_eq_false (by omega)
  generalize coreV (firstR f m l s) = c at *
  generalize (firstR f m l s).isSome = b at *
  clear h hL hr hm hb1 hbox
  unfold planA
  go_enter Tryz.func6, Tryz.ntmps6
  go_wp2_with fail
  refine (HPC.out _ (HH.out.keep HB1.out)).mono ?_
  rintro e w2 ⟨E, rfl, _, hiff, hb2⟩
  have hE : E = 0 := hiff.2 HR.out
  subst hE
  have HB2 := Lib.hid (HB1.out.trans (hb2.mono HB1.out.size))
  have HBX2 := Lib.hid (keep_block HBOX.out hb2)
  clear hb2 hiff r0 r1 r2 hw1 hP
  obtain ⟨r0, r1, r2⟩ := three_heads HBX2.out
  go_wp2_with fail
  refine (HFI.out _ (HH.out.keep HB2.out)).mono ?_
  rintro e w3 ⟨rfl, hb3⟩
  have HB3 := Lib.hid (HB2.out.trans (hb3.mono HB2.out.size))
  clear hb3
  go_wp2_with fail
  go_ret2
  exact ⟨rfl, HB3.out⟩

set_option maxRecDepth 100000 in
set_option maxHeartbeats 4000000 in
theorem firstP_no (f : Int) (m : Nat) (v : Value) (l : List Pl) (s : Int) (w : World) (h : PlsAt w v l) (hL : LightL l) (hm : m < 4294967296) (hn : s < 1 ∨ ¬ Right f m l) :
    Calls Tryz.prog 6 #[planA f m v, .int .i64 s] w (RetB (.tuple #[.int .i64 0, .bool false]) w) := by
  have HPC := Lib.hid (fun w h => planCheck_any f m v l w h hL.wide hm)
  have HH := Lib.hid h
  unfold planA at HPC
  obtain ⟨w1, P, hw1, hP, hPl, hb1, hbox⟩ := box_any w #[.int .i64 f, .int .u32 m, v] 25
  have HB1 := Lib.hid hb1
  obtain ⟨r0, r1, r2⟩ := three_heads hbox
  clear h hL hb1 hbox
  unfold planA
  by_cases hs : s < 1
  · have hsd : decide (s < 1) = true := decide_eq_true hs
    clear hn
    go_enter Tryz.func6, Tryz.ntmps6
    go_wp2_with fail
    go_ret2
    exact ⟨rfl, HB1.out⟩
  · have hsd : decide (s < 1) = false := decide_eq_false hs
    have HNR := Lib.hid (hn.resolve_left hs)
    clear hn
    go_enter Tryz.func6, Tryz.ntmps6
    go_wp2_with fail
    refine (HPC.out _ (HH.out.keep HB1.out)).mono ?_
    rintro e w2 ⟨E, rfl, hE, hiff, hb2⟩
    have hE30 : E = 30 := hE.resolve_left fun e => HNR.out (hiff.1 e)
    subst hE30
    have HB2 := Lib.hid (HB1.out.trans (hb2.mono HB1.out.size))
    clear hb2 hiff hE r0 r1 r2
    go_wp2_with fail
    go_ret2
    exact ⟨rfl, HB2.out⟩
end Go.Proofs.YtiadnpipbocecaaGreat
