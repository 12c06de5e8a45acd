/-
  A law on regions whose order is open: a load may be taken first where every operation that could come before it leaves the loaded cells as they are, though a store that waits for all loads writes them.
  Conditions: those of each law. The condition S is shown anew behind the operations that N names, not behind the others.
-/
import Derived.Test.YtpfpojehcjmfnaaGreatT07
import Derived.Test.YtpfpojehcjmfnaaGreatT02
import Derived.Laws.Rows
import Derived.Test.YtpfpojehcjmfnaaGreatT13
import Derived.Test.YtpfpojehcjmfnaaGreatT14
import Derived.Test.YtpfpojehcjmfnaaGreatT03
import Derived.Test.YtpfpojehcjmfnaaGreatT08
import Derived.Test.YtpfpojehcjmfnaaGreatT12
import Derived.OrdersHeld
import Derived.WalkKit
import Derived.Deep.RegionHeld

/-
  A right plan is a light one; a plan's own block is none of its places'; three results, the first in a block.
  Conditions: none.
-/
set_option linter.unusedVariables false
namespace Go.Proofs.YtpfpojehcjmfnaaGreat
open Go.RowKit

theorem pn_cell {W : World} {R : Nat} {f : Int} {M : Nat} {v : Value} {T : TypeId} (h : W.heap[R]? = some (.cells #[.int .i64 f, .int .u32 (M : Int), v] T (0, 0))) (o : Nat) :
    W.cell? ⟨R, o, none⟩ = (#[.int .i64 f, .int .u32 (M : Int), v] : Array Value)[o]? := by
  simp [World.cell?, h]
theorem pcs_not {F : Nat → Prop} {W : World} {R : Nat} {f : Int} {M : Nat} {v u : Value} {T : TypeId} (h : W.heap[R]? = some (.cells #[.int .i64 f, .int .u32 (M : Int), v] T (0, 0))) {ps : List Pc} (hp : PcsIn F W u ps) : PcsIn (fun b => F b ∧ b ≠ R) W u ps := by
  obtain ⟨A, c, e, h1, h2, h3⟩ := hp
  refine ⟨A, c, e, h1, h2, fun hn => ?_⟩
  obtain ⟨b, off, e2, hb, hF, hc⟩ := h3 hn
  refine ⟨b, off, e2, hb, ⟨hF, ?_⟩, hc⟩
  rintro rfl
  obtain ⟨y, hy⟩ := exP_at (xs := ps) (k := 0) hn
  obtain ⟨g0, g1⟩ := hc 0 y hy
  rw [pn_cell h] at g0 g1
  rcases off with _ | _ | _ | off <;> simp at g0 g1
theorem pls_not {F : Nat → Prop} {W : World} {R : Nat} {f : Int} {M : Nat} {v u : Value} {T : TypeId} (h : W.heap[R]? = some (.cells #[.int .i64 f, .int .u32 (M : Int), v] T (0, 0))) {l : List Pl} (hp : PlsIn F W u l) : PlsIn (fun b => F b ∧ b ≠ R) W u l := by
  obtain ⟨ls, rfl, A, c, e, h1, h2, h3, h4⟩ := hp
  refine ⟨ls, rfl, A, c, e, h1, h2, fun hn => ?_, fun p hp => pcs_not h (h4 p hp)⟩
  obtain ⟨b, off, e2, hb, hF, hc⟩ := h3 hn
  refine ⟨b, off, e2, hb, ⟨hF, ?_⟩, hc⟩
  rintro rfl
  obtain ⟨y, hy⟩ := exP_at (xs := ls) (k := 0) hn
  obtain ⟨g0, g1, _⟩ := hc 0 y hy
  rw [pn_cell h] at g0 g1
  rcases off with _ | _ | _ | off <;> simp at g0 g1

theorem results_row_tmp2 {P : Program} {fn : Func} {p u v : Tmp} {ty : TypeId} (h : fn.results = #[.cell p ty, .tmp u, .tmp v]) (tmps : Array Value) (w : World) (g : Nat) (t : TypeId) (cs : Array Value) (fr : Nat × Nat) (d : TypeDesc)
    (hp : tmps.getD p undef = .pointer (some ⟨g, 0, none⟩)) (hg : w.heap[g]? = some (.cells cs t fr))
    (hu : P.underlying ty = some d) (hd : (match d with | .struct _ | .array _ _ => true | _ => false) = true) (hi : (P.info? ty).map (·.size) = some cs.size) (x y : Value) (hx : tmps.getD u undef = x) (hy : tmps.getD v undef = y) :
    (results fn tmps).run P w = .ok (.tuple #[.agg cs, x, y]) w := by
  have e : (results fn tmps).run P w = ((asAddr (tmps.getD p undef)).run P w).andThen fun a w₁ => ((loadVar ty a).run P w₁).andThen fun v' w₂ => .ok (.tuple #[v', tmps.getD u undef, tmps.getD v undef]) w₂ := by
    simp only [results, h]
    simp [Sem.run_bind, Result.andThen]
  rw [e, hp, hx, hy]
  simp [asAddr, run_loadVar_row w g t ty cs fr d hg hu hd hi, Result.andThen]
end Go.Proofs.YtpfpojehcjmfnaaGreat

/-
  First fit by falling sizes, of the program.
  Conditions: the slices read as places, as wants; the numbers are of their kinds; both are short.
-/
set_option linter.unusedVariables false
set_option linter.unusedSimpArgs false
namespace Go.Proofs.YtpfpojehcjmfnaaGreat
open Go.RowKit

/-- Some wants behind: the plan so far in block F, who is left over in a row of one's own. -/
structure FitSt (f : Int) (m : Nat) (base F : Nat) (w6 wr : World) (so v : Value) (l : List Pl) (over : List Sp) : Prop where
  apart : Apart (fun b => b = F) w6 wr
  box : wr.heap[F]? = some (.cells #[.int .i64 f, .int .u32 m, v] 26 (0, 0))
  pls : PlsIn (fun b => base ≤ b ∧ b ≠ F ∧ so.ownBlock ≠ some b) wr v l
  own : wr.ownsRow w6.heap.size 52 2 so over.length (spansCells over)
theorem FitSt.keep {f : Int} {m base F : Nat} {w6 wr W : World} {so v : Value} {l : List Pl} {over : List Sp} (h : FitSt f m base F w6 wr so v l over) (hb : Below wr.heap.size wr W) : FitSt f m base F w6 W so v l over :=
  ⟨h.apart.trans (Apart.of_below (F := fun _ => False) hb) (fun x _ e => e.elim), keep_block h.box hb, h.pls.keep hb, own_below5 h.own hb⟩
theorem FitSt.put {f : Int} {m base F : Nat} {w6 w' W : World} {so v v' : Value} {l l' : List Pl} {over : List Sp} (h : FitSt f m base F w6 w' so v l over) (hb : Below w'.heap.size w' W) (hp : PlsIn (fun b => w'.heap.size ≤ b) W v' l') (hbase : base ≤ w'.heap.size) (hF : F < w6.heap.size) :
    FitSt f m base F w6 (W.setRow F #[.int .i64 f, .int .u32 m, v']) so v' l' over := by
  have hk := h.keep hb
  have hlt := heap_lt h.box
  refine ⟨hk.apart.trans (F' := fun b => b = F) ⟨rfl, rfl, rfl, by simp, fun k _ hne => setRow_other _ _ _ _ hne⟩ (fun x _ e => e), setRow_heap _ _ _ _ _ _ hk.box, ?_, own_keep hk.own fun k hv => setRow_other _ _ _ _ ?_⟩
  · refine (PlsIn.setRow hp (N := F) (.inl (by omega))).mono fun b _ hF' => ⟨by omega, by omega, fun e => ?_⟩
    have := own_lt h.own e
    omega
  · have := own_base5 hk.own k hv
    omega
theorem FitSt.more {f : Int} {m base F : Nat} {w6 W W' : World} {so so' v : Value} {l : List Pl} {over over' : List Sp} (h : FitSt f m base F w6 W so v l over) (ho : W'.ownsRow w6.heap.size 52 2 so' over'.length (spansCells over')) (hg : W.grownBy W' so.ownBlock) (hat : so'.ownBlock = so.ownBlock ∨ so'.ownBlock = some W.heap.size) (hF : F < w6.heap.size) :
    FitSt f m base F w6 W' so' v l over' := by
  have hne : ∀ k, so.ownBlock = some k → w6.heap.size ≤ k := own_base5 h.own
  refine ⟨h.apart.trans (F' := fun b => so.ownBlock = some b) ⟨hg.os, hg.tape, hg.output, hg.size, fun k hk hn => hg.block k hk fun e => hn e.symm⟩ (fun x hx e => by have := hne x e; omega), (hg.block F (heap_lt h.box) fun e => by have := hne F e.symm; omega).trans h.box, ?_, ho⟩
  refine ((h.pls.mono (G := fun b => b < W.heap.size ∧ base ≤ b ∧ b ≠ F ∧ so.ownBlock ≠ some b) fun b hb hF => ⟨hb, hF⟩).keepF hg.size fun b hb hF => hg.block b hb fun e => hF.2.2.2 e.symm).mono fun b _ hF => ⟨hF.2.1, hF.2.2.1, fun e => ?_⟩
  rcases hat with hat | hat
  · exact hF.2.2.2 (hat ▸ e)
  · rw [hat] at e
    have := Option.some.inj e
    omega
/-- What Fit answers. -/
def RetFit (f : Int) (m : Nat) (l : List Pl) (ws : List Sp) (w : World) (e : Ending) (w' : World) : Prop := ∃ E : Int, Why f m l ws E ∧ Below w.heap.size w w' ∧
  ((E = 0 ∧ ∃ v vo, e = .returned (.tuple #[planA f m v, vo, .int .i64 0]) ∧ PlsIn (fun b => w.heap.size ≤ b) w' v (fitT f m l (sortT ws)).1 ∧ SpansAt w' vo (fitT f m l (sortT ws)).2) ∨
   (E ≠ 0 ∧ e = .returned (.tuple #[planA 0 0 (.slice none 0 0), .slice none 0 0, .int .i64 E])))
theorem dropT_zeroF {f : Int} {m : Nat} {l : List Pl} (h : Right f m l) : dropT l 0 = l := drop_absent fun x hx => by
  have := isU_range (h.place x hx).unit
  omega

set_option maxRecDepth 100000 in
set_option maxHeartbeats 8000000 in
theorem fit_any (f : Int) (m : Nat) (v : Value) (l : List Pl) (vw : Value) (ws : List Sp) (w : World) (h : PlsAt w v l) (hL : LightL l) (hw : SpansAt w vw ws) (hi : IntsS ws) (hm : m < 4294967296) (hl : l.length + ws.length ≤ 300) :
    Calls Tryz.prog 39 #[planA f m v, vw] w (RetFit f m l ws w) := by
  obtain ⟨i0, hi0, hz0, hz1, hz2⟩ := info_parts Tryz.infoSpan
  have HCK := Lib.hid (fun w h hw => checkF_any f m v l vw ws w h hL hw hi hm)
  have HDR := Lib.hid (fun w h => planDrop_any f m v l 0 w h (by omega) (fun x hx => (hL.ok x hx).2))
  have HSO := Lib.hid (fun w h => sort_any vw ws w h)
  have HOK := Lib.hid hL.ok
  have HH := Lib.hid h
  have HW := Lib.hid hw
  have HLL := Lib.hid hl
  unfold planA at HCK HDR
  unfold RetRow planA at HDR
  obtain ⟨w1, P, hw1, hP, hPl, hb1, hbox⟩ := box_any w #[.int .i64 f, .int .u32 m, v] 26
  obtain ⟨w2, R, hw2, hR, hRl, hb2, hrox⟩ := box_any w1 #[.int .i64 0, .int .u32 0, .slice none 0 0] 26
  have HB2 := Lib.hid (hb1.trans (hb2.mono hb1.size))
  have HPB := Lib.hid (keep_block hbox hb2)
  have HRB := Lib.hid hrox
  have HLT := Lib.hid (show w.heap.size ≤ P ∧ P < R ∧ R < w2.heap.size by have := hb1.size; omega)
  obtain ⟨p0, p1, p2⟩ := three_heads HPB.out
  clear h hL hw hi hl hb1 hb2 hbox hrox
  unfold planA
  go_enter Tryz.func39, Tryz.ntmps39
  go_wp2_with fail
  refine (HCK.out _ (HH.out.keep HB2.out) (HW.out.keep HB2.out)).mono ?_
  rintro e w3 ⟨E, rfl, hwhy, hb3⟩
  have HWH := Lib.hid hwhy
  have HB23 := Lib.hid hb3
  have HB3 := Lib.hid (HB2.out.trans (hb3.mono HB2.out.size))
  have HPB3 := Lib.hid (keep_block HPB.out hb3)
  have HRB3 := Lib.hid (keep_block HRB.out hb3)
  have HLT3 := Lib.hid (show R < w3.heap.size from heap_lt HRB3.out)
  clear hb3 hwhy p0 p1 p2 hw1 hP hw2 hR
  obtain ⟨p0, p1, p2⟩ := three_heads HPB3.out
  by_cases he : E = 0
  · subst he
    have hg := HWH.out.zero
    have HG := Lib.hid hg
    have hdz := dropT_zeroF hg.right
    rw [hdz] at HDR
    have HINV := Lib.hid (fun k hk => hg.inv (k := k) hk)
    have HSL := Lib.hid (sortT_length ws)
    have HWO := Lib.hid ((WOk.of_chk hg.chk).2.perm (sortT_perm ws))
    clear hdz hg
    go_wp2_with fail
    refine (HDR.out _ (HH.out.keep HB3.out)).mono ?_
    rintro e w4 ⟨v4, ls, rfl, hls, hrow, hb4⟩
    have HB4 := Lib.hid (HB3.out.trans (hb4.mono HB3.out.size))
    have hpl4 := pls_of_own hrow.own hrow.pcs
    rw [hls] at hpl4
    have HPL4 := Lib.hid (hpl4.mono (G := fun b => w3.heap.size ≤ b) fun b _ hF => hF.elim (fun h => h.1) id)
    have HRB4 := Lib.hid (keep_block HRB3.out hb4)
    have hs4 := hb4.size
    obtain ⟨A4, c4, hv4⟩ := own_form hrow.own
    obtain ⟨n4, hn4⟩ : ∃ n4, ls.length = n4 := ⟨_, rfl⟩
    rw [hn4] at hv4
    subst hv4
    clear hls hrow hb4 hpl4 hn4
    obtain ⟨wz, F, hwz, hF, hFl, hbz, hfz⟩ := box_any w4 #[.int .i64 0, .int .u32 0, .slice none 0 0] 26
    have HFZ := Lib.hid hfz
    obtain ⟨w5, hw5⟩ : ∃ w5, wz.setRow F #[.int .i64 f, .int .u32 m, .slice A4 n4 c4] = w5 := ⟨_, rfl⟩
    have hb5 : Below w4.heap.size w4 w5 := by rw [← hw5]; exact below_row hbz (by omega) _
    have HB5 := Lib.hid (HB4.out.trans (hb5.mono HB4.out.size))
    have HFB5 : Hid (w5.heap[F]? = some (.cells #[.int .i64 f, .int .u32 m, .slice A4 n4 c4] 26 (0, 0))) := Lib.hid (by rw [← hw5]; exact setRow_heap _ _ _ _ _ _ hfz)
    have HRB5 := Lib.hid (keep_block HRB4.out hb5)
    have HPL5 : Hid (PlsIn (fun b => w3.heap.size ≤ b ∧ b ≠ F) w5 (.slice A4 n4 c4) l) := Lib.hid (((HPL4.out.mono (G := fun b => w3.heap.size ≤ b ∧ b ≠ F) fun b hb h => ⟨h, by omega⟩).keep hb5))
    have HSO5 := Lib.hid (HSO.out _ (HW.out.keep HB5.out))
    have HF4 := Lib.hid (show w3.heap.size ≤ F ∧ F < w5.heap.size from ⟨by omega, heap_lt HFB5.out⟩)
    clear hb5 hbz hfz p0 p1 p2 hs4
    go_wp2_with (refine wpList_store_row rfl _ _ _ rfl F #[.int .i64 f, .int .u32 m, .slice A4 n4 c4] rfl rfl 26 _ HFZ.out (Tryz.sizePn _ _ _) rfl (one3 _ _ _ _ _) ?_)
    refine HSO5.out.mono ?_
    rintro e w6 ⟨v6, rfl, hown6, hb6⟩
    obtain ⟨A6, c6, hv6⟩ := own_form hown6
    obtain ⟨srt, hsrt⟩ : ∃ srt, sortT ws = srt := ⟨_, rfl⟩
    rw [hsrt] at hown6 hv6 HINV HSL HWO
    have HSR := Lib.hid hsrt
    obtain ⟨n, hn⟩ : ∃ n, srt.length = n := ⟨_, rfl⟩
    rw [hn] at hv6
    have HN := Lib.hid hn
    have HAT : Hid (0 < n → ∃ g, A6 = some ⟨g, 0, none⟩ ∧ w5.heap.size ≤ g ∧ g < w6.heap.size ∧ n ≤ c6 ∧ ∀ j p, srt[j]? = some p → PairAt w6 g (j * 2) p) := Lib.hid fun h0 => by
      obtain ⟨g, cap, e1, e2, e3, e4, e5, e6, _⟩ := own_lies hown6 (by omega)
      rw [hv6] at e1
      injection e1 with e7 e8 e9
      subst e9
      exact ⟨g, e7, e2, e3, by omega, e6⟩
    subst hv6
    have HB6 := Lib.hid (HB5.out.trans (hb6.mono HB5.out.size))
    have HF6 := Lib.hid (show F < w6.heap.size by have := hb6.size; have := HF4.out; omega)
    have HRB6 := Lib.hid (keep_block HRB5.out hb6)
    have HST0 : Hid (FitSt f m w3.heap.size F w6 w6 (.slice none 0 0) (.slice A4 n4 c4) l []) := Lib.hid ⟨Apart.refl _ _, keep_block HFB5.out hb6, (HPL5.out.keep hb6).mono fun b _ h => ⟨h.1, h.2, (fun e => by cases e)⟩, World.ownsRow_nil _ _ _ _⟩
    have HS6 := Lib.hid (show w3.heap.size ≤ w6.heap.size by have := HF4.out; have := HF6.out; omega)
    have hnw : n = ws.length := by have := HSL.out; have := HN.out; omega
    have HNW := Lib.hid hnw
    clear hnw
    have hnl : n ≤ 300 := by have := HSL.out; have := HLL.out; omega
    clear hown6 hb6 hn hsrt hw5 hwz hF
    go_wp2_with fail
    go_loopg [9, 11, 12, 13, 26] n (fun gg s9 _ _ _ s26 wr => ∃ (k : Nat) (vp : Value), k ≤ n ∧ gg = n - k ∧ s26 = .int .i64 k ∧ FitSt f m w3.heap.size F w6 wr s9 vp (fitT f m l (srt.take k)).1 (fitT f m l (srt.take k)).2)
    case atStart => exact ⟨0, _, Nat.zero_le _, by omega, rfl, HST0.out⟩
    case round =>
      obtain ⟨k, vp, hk, hg, rfl, hst⟩ := hrel
      have HG := Lib.hid hg
      have HST := Lib.hid hst
      have hinv := HINV.out k (by have := HSL.out; have := HN.out; omega)
      have hlen := hinv.len
      rw [List.length_take, Nat.min_eq_left (by have := HN.out; omega)] at hlen
      by_cases hlt : k < n
      · have hltz : (k : Int) < (n : Int) := by omega
        have hk0 : (0 : Int) ≤ (k : Int) := by omega
        obtain ⟨y, hy⟩ := ex_at (xs := srt) (k := k) (by rw [HN.out]; exact hlt)
        have HSTEP := Lib.hid (fitT_take (f := f) (m := m) (l := l) hy)
        have hyok := HWO.out.all y (List.mem_of_getElem? hy)
        obtain ⟨g, hA, hg5, hg6, hnc, hcell⟩ := HAT.out (by omega)
        subst hA
        obtain ⟨c1, c2⟩ := hcell k y hy
        have hgne : ¬ g = F := by have := HF4.out; omega
        have hbl := hst.apart.block g hg6 hgne
        have c1 := (cell_same hbl (k * 2)).trans c1
        have c2 := (cell_same hbl (k * 2 + 1)).trans c2
        obtain ⟨w7, N, hw7, hN, hNl, hb7, hnb⟩ := box_any wr #[.int .i64 y.1, .int .i64 y.2] 52
        obtain ⟨n0, n1⟩ := two_heads hnb
        have hst7 := hst.keep hb7
        obtain ⟨f0, f1, f2⟩ := three_heads hst7.box
        have HST7 := Lib.hid hst7
        have HNB := Lib.hid hnb
        generalize fitT f m l (srt.take k) = st at *
        obtain ⟨L, O⟩ := st
        simp only at hinv hlen hst hst7 HST7 HSTEP
        have hLL : LightL L := ⟨by have := HLL.out; have := HNW.out; omega, hinv.ok HOK.out⟩
        have HFR := Lib.hid (first_any f m vp L y.2 w7 hst7.pls.any hLL hinv.right hyok.2.1)
        have HR := Lib.hid hinv.right
        have HLI := Lib.hid hLL
        have HOL := Lib.hid (show O.length ≤ 300 by have := HLL.out; have := HNW.out; omega)
        have HLE := Lib.hid (show L.length ≤ 999 by have := HLL.out; have := HNW.out; omega)
        obtain ⟨o, ho⟩ : ∃ o, firstR f m L y.2 = o := ⟨_, rfl⟩
        rw [ho] at HFR
        have HO := Lib.hid ho
        have HYR := Lib.hid (isU_range hyok.1)
        unfold planA at HFR
        clear hg hst hst7 hinv hlen hy hyok hcell hbl hb7 hnb hLL ho hnc
        cases o with
        | none =>
          have HS1 : Hid (fitT f m l (srt.take (k + 1)) = (L, O ++ [y])) := Lib.hid (HSTEP.out.trans (fitS_none (st := (L, O)) (w := y) HO.out))
          go_wp2_with fail
          refine HFR.out.mono ?_
          rintro e w8 ⟨rfl, hb8⟩
          have HST8 := Lib.hid (HST7.out.keep hb8)
          have HNB8 := Lib.hid (keep_block HNB.out hb8)
          obtain ⟨a0, a1⟩ := two_heads HNB8.out
          have hsz : w6.heap.size ≤ w8.heap.size := HST8.out.apart.size
          have hle := HOL.out
          clear hb8 f0 f1 f2 n0 n1 c1 c2 hw7 hN HSTEP
          go_wp2_with (at_builtin; refine wpList_append_own_at _ rfl _ _ 23 rfl w6.heap.size 52 i0 (.agg #[.int .i64 0, .int .i64 0]) 2 16 Tryz.underlying23 hi0 hz0 hz1 hz2 rfl (by decide) _ _ _ rfl (HST8.out.own.alloc _) ⟨w8.heap.size, 0, none⟩ 1 1 [.int .i64 y.1, .int .i64 y.2] rfl rfl ?c1 ?c2 ?c3 ?c4 ?c5 ?_)
          case c1 => exact news_two _ _ rfl _ _ _
          case c2 => intro u hu; simp at hu; rcases hu with rfl | rfl <;> rfl
          case c3 => unfold maxLen; omega
          case c4 => omega
          case c5 => simp; omega
          intro v9 w9 hown9 hgrow _ hat
          have hba := (Below.refl w8.heap.size w8).alloc (Nat.le_refl _) (.cells #[.int .i64 y.1, .int .i64 y.2] 52)
          have HST9 := Lib.hid ((HST8.out.keep hba).more (over' := O ++ [y]) (by rw [List.length_append, spansCells_snoc]; exact hown9) hgrow (hat.imp id fun e => e.trans (by simp)) HF6.out)
          clear hown9 hgrow hsz hat hba a0 a1
          go_wp2_with fail
          go_roundg (n - (k + 1))
          case measure => have := HG.out; omega
          case rel => exact ⟨k + 1, vp, by omega, by go_num, rfl, by rw [HS1.out]; exact HST9.out⟩
        | some c =>
          have HS1 : Hid (fitT f m l (srt.take (k + 1)) = (addU L ⟨y.1, y.2, (c : Int), []⟩, O)) := Lib.hid (HSTEP.out.trans (fitS_some (st := (L, O)) (w := y) HO.out))
          have HPU := Lib.hid (fun w h => planPut_any f m vp (.slice none 0 0) L ⟨y.1, y.2, (c : Int), []⟩ w h (PcsIn.nil _ _) HLE.out (fun x hx => (HLI.out.ok x hx).2) (by simp) (posU (dropT L y.1) y.1) (posU_at _ _ (dropT_asc HR.out.pairs _)))
          unfold planA plA RetPn planA at HPU
          have HAD := Lib.hid (show putPl (dropT L y.1) ⟨y.1, y.2, (c : Int), []⟩ (posU (dropT L y.1) y.1) = addU L ⟨y.1, y.2, (c : Int), []⟩ from rfl)
          rw [HAD.out] at HPU
          go_wp2_with fail
          refine HFR.out.mono ?_
          rintro e w8 ⟨rfl, hb8⟩
          have HST8 := Lib.hid (HST7.out.keep hb8)
          have HNB8 := Lib.hid (keep_block HNB.out hb8)
          obtain ⟨a0, a1⟩ := two_heads HNB8.out
          have HPU8 := Lib.hid (HPU.out _ HST8.out.pls.any)
          clear hb8 f0 f1 f2 n0 n1 c1 c2 hw7 hN HSTEP HPU
          obtain ⟨f0, f1, f2⟩ := three_heads HST8.out.box
          unfold coreV
          go_wp2_with fail
          refine HPU8.out.mono ?_
          rintro e w9 ⟨v9, rfl, hpl9, hb9⟩
          obtain ⟨A9, c9, hv9, _, _⟩ := hpl9.form
          obtain ⟨n9, hn9⟩ : ∃ n9, (addU L ⟨y.1, y.2, (c : Int), []⟩).length = n9 := ⟨_, rfl⟩
          rw [hn9] at hv9
          subst hv9
          have HB9 := Lib.hid (HST8.out.keep hb9)
          have HST9 := Lib.hid (HST8.out.put hb9 hpl9 (by have := HS6.out; have := HST8.out.apart.size; omega) HF6.out)
          clear hb9 hpl9 f0 f1 f2 a0 a1 hn9
          go_wp2_with (refine wpList_store_row rfl _ _ _ rfl F #[.int .i64 f, .int .u32 m, .slice A9 n9 c9] rfl rfl 26 _ HB9.out.box (Tryz.sizePn _ _ _) rfl (one3 _ _ _ _ _) ?_)
          go_roundg (n - (k + 1))
          case measure => have := HG.out; omega
          case rel => exact ⟨k + 1, _, by omega, by go_num, rfl, by rw [HS1.out]; exact HST9.out⟩
      · have hltz : ¬ (k : Int) < (n : Int) := by omega
        have HTK := Lib.hid (show srt.take k = srt from List.take_of_length_le (by rw [HN.out]; omega))
        rw [HTK.out] at hst
        have hRne : ¬ R = F := by have := HF4.out; have := HLT3.out; omega
        have HRB7 := Lib.hid ((hst.apart.block R (heap_lt HRB6.out) hRne).trans HRB6.out)
        have HST' := Lib.hid hst
        have hob : ∀ b, u9.ownBlock = some b → b ≠ R := fun b hb => by have := own_base5 hst.own b hb; have := HS6.out; have := HLT3.out; omega
        have HEND : Hid (RetFit f m l ws w (.returned (.tuple #[planA f m vp, u9, .int .i64 0])) (wr.setRow R #[.int .i64 f, .int .u32 m, vp])) := Lib.hid ⟨0, HWH.out, below_row (HB6.out.trans (hst.apart.below HB6.out.size fun b hb e => by have := HF4.out; have := HB3.out.size; omega)) (by have := HLT.out; omega) _, .inl ⟨rfl, vp, u9, rfl, by
          rw [HSR.out]
          exact (PlsIn.setRow hst.pls (.inl fun h => by have := h.1; have := HLT3.out; omega)).mono fun b _ h => by have := h.1; have := HB3.out.size; omega, by
          rw [HSR.out]
          exact spans_of_own (base := w6.heap.size) (e := 52) (own_keep hst.own fun b hb => setRow_other _ _ _ _ (hob b hb)) (by
            have h1 := hinv.len
            have h2 := HLL.out
            have h3 := HSL.out
            rw [HTK.out] at h1
            omega)⟩⟩
        obtain ⟨Av, cv, hvv, _, _⟩ := hst.pls.form
        obtain ⟨nv, hnv⟩ : ∃ nv, (fitT f m l srt).1.length = nv := ⟨_, rfl⟩
        rw [hnv] at hvv
        subst hvv
        obtain ⟨f0, f1, f2⟩ := three_heads hst.box
        clear hg hst hinv hlen hob hnv
        go_wp2_with (refine wpList_store_row rfl _ _ _ rfl R #[.int .i64 f, .int .u32 m, .slice Av nv cv] rfl rfl 26 _ HRB7.out (Tryz.sizePn _ _ _) rfl (one3 _ _ _ _ _) ?_)
        refine bodyPost_ret (v := .tuple #[planA f m (.slice Av nv cv), u9, .int .i64 0]) (results_row_tmp2 rfl _ _ R _ _ _ _ rfl (setRow_heap _ _ _ _ _ _ HRB7.out) Tryz.underlying26 rfl (Tryz.sizePn _ _ _) _ _ rfl rfl) rfl ?_
        exact HEND.out
  · have hb0 : (E != 0) = true := by simpa using he
    have HE := Lib.hid he
    clear he
    go_wp2_with (refine wpList_store_row rfl _ _ _ rfl R #[.int .i64 0, .int .u32 0, .slice none 0 0] rfl rfl 26 _ HRB3.out (Tryz.sizePn _ _ _) rfl (one3 _ _ _ _ _) ?_)
    refine bodyPost_ret (v := .tuple #[planA 0 0 (.slice none 0 0), .slice none 0 0, .int .i64 E]) (results_row_tmp2 rfl _ _ R _ _ _ _ rfl (setRow_heap _ _ _ _ _ _ HRB3.out) Tryz.underlying26 rfl (Tryz.sizePn _ _ _) _ _ rfl rfl) rfl ?_
    exact ⟨E, HWH.out, below_row HB3.out (by have := HLT.out; omega) _, .inr ⟨HE.out, rfl⟩⟩
end Go.Proofs.YtpfpojehcjmfnaaGreat

/-
  Pieces tick by tick: as the document lays them.
  Conditions: none.
-/
set_option linter.unusedVariables false
namespace Go.Proofs.YtpfpojehcjmfnaaGreat

theorem pcsC_upto {n a s : Nat} {r : Nat → Nat} {e : Nat} : ∀ {k : Nat}, e ≤ k → (∀ i, e ≤ i → i < k → takeN r s i = 0) → pcsC n a r s k = pcsC n a r s e
  | 0, h, _ => by rw [Nat.le_zero.1 h]
  | k + 1, h, h0 => by
    by_cases e1 : e = k + 1
    · rw [e1]
    · rw [pcsC, if_pos (h0 k (by omega) (by omega)), List.append_nil]
      exact pcsC_upto (by omega) fun i h1 h2 => h0 i h1 (by omega)
end Go.Proofs.YtpfpojehcjmfnaaGreat

/-
  What is left of the rooms, in memory; Rooms of the program.
  Conditions: the slice reads as places; the numbers are of their kinds.
-/
set_option linter.unusedVariables false
set_option linter.unusedSimpArgs false
namespace Go.Proofs.YtpfpojehcjmfnaaGreat
open Go.RowKit

/-- Block R is sixteen numbers. -/
abbrev RowI (W : World) (R : Nat) (g : Nat → Int) : Prop := W.heap[R]? = some (.cells (arrI g) 3 (0, 0))
theorem RowI.cell {W : World} {N : Nat} {g : Nat → Int} (h : RowI W N g) {i : Nat} (hi : i < 16) : W.cell? ⟨N, i, none⟩ = some (.int .i64 (g i)) := by rw [cell_of_row W N i _ _ _ h, arrI_get _ hi]
theorem RowI.frozen {W : World} {N : Nat} {g : Nat → Int} (h : RowI W N g) (j : Nat) : W.frozen? ⟨N, j, none⟩ = false := by
  have e : W.heap[N]? = some (.cells (arrI g) 3 (0, 0)) := h
  simp [World.frozen?, e]
theorem RowI.set {W : World} {N : Nat} {g : Nat → Int} (h : RowI W N g) (j : Nat) (x : Int) : RowI (W.setCell ⟨N, j, none⟩ (.int .i64 x)) N fun i => if i = j then x else g i := by
  have := heap_setCell_mem W N j _ _ _ (.int .i64 x) h
  rwa [arrI_set] at this
theorem RowI.congr {W : World} {N : Nat} {g g' : Nat → Int} (h : RowI W N g) (e : ∀ i, i < 16 → g i = g' i) : RowI W N g' := by
  show _ = some (Obj.cells (arrI g') _ _)
  rw [← arrI_congr e]
  exact h
theorem heap_other (W : World) {b k o : Nat} (u : Value) (h : k ≠ b) : (W.setCell ⟨b, o, none⟩ u).heap[k]? = W.heap[k]? := Below.heap_setCell _ _ _ _ h

/-- The rooms so far: those of the first k cores. -/
def rmA (f : Int) (m : Nat) (l : List Pl) (k i : Nat) : Int := if i < k then roomN f m l (i : Int) else 0
theorem rmA_zero (f : Int) (m : Nat) (l : List Pl) : rmA f m l 0 = fun _ => 0 := by
  funext i
  exact if_neg (Nat.not_lt_zero _)
theorem rmA_succ (f : Int) (m : Nat) (l : List Pl) (k : Nat) : (fun i => if i = k then roomN f m l (k : Int) else rmA f m l k i) = rmA f m l (k + 1) := by
  funext i
  unfold rmA
  by_cases h : i = k
  · subst h; rw [if_pos rfl, if_pos (by omega)]
  · rw [if_neg h]
    by_cases h2 : i < k
    · rw [if_pos h2, if_pos (by omega)]
    · rw [if_neg h2, if_neg (by omega)]
/-- What Rooms answers. -/
def RetRooms (f : Int) (m : Nat) (l : List Pl) (w : World) (e : Ending) (w' : World) : Prop := Below w.heap.size w w' ∧
  ((Right f m l ∧ ∃ R, e = .returned (.slice (some ⟨R, 0, none⟩) 16 16) ∧ w.heap.size ≤ R ∧ RowI w' R fun i => roomN f m l (i : Int)) ∨ (¬ Right f m l ∧ e = .returned (.slice none 0 0)))

set_option maxRecDepth 100000 in
set_option maxHeartbeats 4000000 in
theorem chRooms_any (f : Int) (m : Nat) (v : Value) (l : List Pl) (w : World) (h : PlsAt w v l) (hL : LightL l) (hm : m < 4294967296) :
    Calls Tryz.prog 55 #[planA f m v] w (RetRooms f m l w) := by
  have HPC := Lib.hid (fun w h => planCheck_any f m v l w h hL.wide hm)
  have HRM := Lib.hid (fun (hr : Right f m l) c w h => room_any f m v l c w h hL (shares_of hr.place hr.f64) hm (by have := hr.f2; omega) hr.f64)
  have HH := Lib.hid h
  unfold planA at HPC HRM
  obtain ⟨w1, P, hw1, hP, hPl, hb1, hbox⟩ := box_any w #[.int .i64 f, .int .u32 m, v] 26
  have HB1 := Lib.hid hb1
  have HBOX := Lib.hid hbox
  obtain ⟨r0, r1, r2⟩ := three_heads hbox
  clear h hL hm hb1 hbox
  unfold planA
  go_enter Tryz.func55, Tryz.ntmps55
  go_wp2_with fail
  refine (HPC.out _ (HH.out.keep HB1.out)).mono ?_
  rintro e w2 ⟨E1, rfl, hE1, hiff, hb2⟩
  have HB2 := Lib.hid (HB1.out.trans (hb2.mono HB1.out.size))
  have HBX2 := Lib.hid (keep_block HBOX.out hb2)
  clear hb2 r0 r1 r2 hw1 hP
  rcases hE1 with rfl | rfl
  · have HR := Lib.hid (hiff.1 rfl)
    have HRM2 := Lib.hid (HRM.out HR.out)
    obtain ⟨r0, r1, r2⟩ := three_heads HBX2.out
    obtain ⟨w3, R, hw3, hR, hRl, hb3, hrb⟩ := box_any w2 (arrI fun _ => 0) 3
    have hmk : (Instr.makeSlice 43 (.int .i64 16) (.int .i64 16)).run Tryz.prog w2 = .ok (.slice (some ⟨R, 0, none⟩) 16 16) w3 := by
      have h := mk_ints w2 16 (by omega)
      rw [show rowOf (zeros 16) = arrI fun _ => 0 from rfl, hw3, hR] at h
      exact h
    have HB3 := Lib.hid (HB2.out.trans (hb3.mono HB2.out.size))
    have HBX3 := Lib.hid (keep_block HBX2.out hb3)
    have HR3 : Hid (RowI w3 R (rmA f m l 0)) := Lib.hid (by rw [rmA_zero]; exact hrb)
    have HRL := Lib.hid (show w.heap.size ≤ R ∧ P < R by have := HB2.out.size; have := heap_lt HBX2.out; omega)
    clear hiff hw3 hR hb3 hrb
    go_wp2_with fail
    clear r0 r1 r2 hmk
    go_loopg [4, 11] 16 (fun gg _ s11 wr => ∃ k : Nat, k ≤ 16 ∧ gg = 16 - k ∧ s11 = .int .i64 k ∧ Apart (fun b => b = R) w3 wr ∧ RowI wr R (rmA f m l k))
    case atStart => exact ⟨0, Nat.zero_le _, rfl, rfl, Apart.refl _ _, HR3.out⟩
    case round =>
      obtain ⟨k, hk, hg, rfl, hat, hrow⟩ := hrel
      have HG := Lib.hid hg
      have HAT := Lib.hid hat
      have HROW := Lib.hid hrow
      have hne : ¬ P = R := by have := HRL.out; omega
      have HXR := Lib.hid ((hat.block P (heap_lt HBX3.out) hne).trans HBX3.out)
      obtain ⟨r0, r1, r2⟩ := three_heads HXR.out
      have HBR := Lib.hid (HB3.out.trans (hat.below HB3.out.size fun b hb e => by have := HRL.out; omega))
      clear hat hrow hg
      by_cases hlt : k < 16
      · have hltz : (k : Int) < 16 := by omega
        have hk0 : (0 : Int) ≤ (k : Int) := by omega
        go_wp2_with fail
        refine (HRM2.out (k : Int) _ (HH.out.keep HBR.out)).mono ?_
        rintro e w4 ⟨rfl, hb4⟩
        have HAT4 := Lib.hid (HAT.out.trans (Apart.of_below (F := fun b => b = R) hb4) fun _ _ e => e)
        have HROW4 : Hid (RowI w4 R (rmA f m l k)) := keep_block HROW.out hb4
        have t0 := HROW4.out.cell hlt
        have t1 := HROW4.out.frozen k
        clear hb4 r0 r1 r2
        go_wp2_with fail
        go_roundg (16 - (k + 1))
        case measure => have := HG.out; omega
        case rel =>
          refine ⟨k + 1, by omega, rfl, by go_num, HAT4.out.set (p := ⟨R, k, none⟩) (.inl rfl) _, ?_⟩
          have h1 := RowI.set HROW4.out k (roomN f m l (k : Int))
          rw [rmA_succ] at h1
          exact h1
      · have hk16 : k = 16 := by omega
        subst hk16
        go_wp2_with fail
        go_ret
        exact ⟨HBR.out, .inl ⟨HR.out, R, rfl, HRL.out.1, HROW.out.congr fun i hi => if_pos hi⟩⟩
  · go_wp2_with fail
    go_ret
    exact ⟨HB2.out, .inr ⟨fun h => by have := hiff.2 h; omega, rfl⟩⟩
end Go.Proofs.YtpfpojehcjmfnaaGreat

/-
  The next core that has room; as many ticks as it gives: of the program.
  Conditions: some core from the current one on has room.
-/
set_option linter.unusedVariables false
set_option linter.unusedSimpArgs false
namespace Go.Proofs.YtpfpojehcjmfnaaGreat
open Go.RowKit

/-- What is left of the rooms, the current core and tick: a struct in block C, the rooms in block R. -/
structure ChAt (W : World) (C R : Nat) (f : Int) (g : Nat → Int) (core tick : Nat) : Prop where
  box : W.heap[C]? = some (.cells #[.int .i64 f, .slice (some ⟨R, 0, none⟩) 16 16, .int .i64 core, .int .i64 tick] 133 (0, 0))
  row : RowI W R g
  ne : R ≠ C
theorem ChAt.keep {W W' : World} {C R : Nat} {f : Int} {g : Nat → Int} {core tick : Nat} (h : ChAt W C R f g core tick) (hb : Below W.heap.size W W') : ChAt W' C R f g core tick :=
  ⟨keep_block h.box hb, keep_block h.row hb, h.ne⟩
theorem ChAt.drewN {W : World} {C R : Nat} {f : Int} {g : Nat → Int} {core tick : Nat} (h : ChAt W C R f g core tick) (n : Nat) : ChAt (W.drewN n) C R f g core tick := ⟨h.box, h.row, h.ne⟩
theorem ChAt.drew {W : World} {C R : Nat} {f : Int} {g : Nat → Int} {core tick : Nat} (h : ChAt W C R f g core tick) : ChAt W.drew C R f g core tick := ⟨h.box, h.row, h.ne⟩
theorem ChAt.heads {W : World} {C R : Nat} {f : Int} {g : Nat → Int} {core tick : Nat} (h : ChAt W C R f g core tick) :
    W.cell? ⟨C, 0, none⟩ = some (.int .i64 f) ∧ W.cell? ⟨C, 1, none⟩ = some (.slice (some ⟨R, 0, none⟩) 16 16) ∧ W.cell? ⟨C, 2, none⟩ = some (.int .i64 core) ∧ W.cell? ⟨C, 3, none⟩ = some (.int .i64 tick) ∧ W.frozen? ⟨C, 2, none⟩ = false ∧ W.frozen? ⟨C, 3, none⟩ = false := by
  have e := h.box
  refine ⟨?_, ?_, ?_, ?_, ?_, ?_⟩ <;> simp [World.cell?, World.frozen?, e]
theorem ChAt.setCore {W : World} {C R : Nat} {f : Int} {g : Nat → Int} {core tick : Nat} (h : ChAt W C R f g core tick) (c : Nat) : ChAt (W.setCell ⟨C, 2, none⟩ (.int .i64 c)) C R f g c tick :=
  ⟨heap_setCell_mem W C 2 _ _ _ _ h.box, (heap_other W _ h.ne).trans h.row, h.ne⟩
theorem ChAt.setTick {W : World} {C R : Nat} {f : Int} {g : Nat → Int} {core tick : Nat} (h : ChAt W C R f g core tick) (t : Nat) : ChAt (W.setCell ⟨C, 3, none⟩ (.int .i64 t)) C R f g core t :=
  ⟨heap_setCell_mem W C 3 _ _ _ _ h.box, (heap_other W _ h.ne).trans h.row, h.ne⟩
theorem ChAt.setRoom {W : World} {C R : Nat} {f : Int} {g : Nat → Int} {core tick : Nat} (h : ChAt W C R f g core tick) (j : Nat) (x : Int) : ChAt (W.setCell ⟨R, j, none⟩ (.int .i64 x)) C R f (fun i => if i = j then x else g i) core tick :=
  ⟨(heap_other W _ (Ne.symm h.ne)).trans h.box, RowI.set h.row j x, h.ne⟩
theorem ChAt.congr {W : World} {C R : Nat} {f : Int} {g g' : Nat → Int} {core tick : Nat} (h : ChAt W C R f g core tick) (e : ∀ i, i < 16 → g i = g' i) : ChAt W C R f g' core tick := ⟨h.box, h.row.congr e, h.ne⟩
/-- What a call that changes it leaves. -/
def ChPost (C R : Nat) (f : Int) (v : Value) (g : Nat → Int) (core tick : Nat) (W : World) (e : Ending) (w' : World) : Prop := e = .returned v ∧ ChAt w' C R f g core tick ∧ Apart (fun k => k = C ∨ k = R) W w'

set_option maxRecDepth 100000 in
set_option maxHeartbeats 4000000 in
theorem skip_any (W : World) (C R : Nat) (f : Int) (g : Nat → Int) (core tick c1 : Nat) (h : ChAt W C R f g core tick) (h1 : core ≤ c1) (h2 : c1 < 16) (h3 : g c1 ≠ 0) (h4 : ∀ i, core ≤ i → i < c1 → g i = 0) :
    Calls Tryz.prog 133 #[.pointer (some ⟨C, 0, none⟩)] W (ChPost C R f (.tuple #[]) g c1 tick W) := by
  have HC := Lib.hid h
  have H3 := Lib.hid h3
  have H4 := Lib.hid h4
  clear h h3 h4
  go_enter Tryz.func133, Tryz.ntmps133
  go_wp2_with fail
  go_loopg [] (c1 - core) (fun gg wr => ∃ k : Nat, core ≤ k ∧ k ≤ c1 ∧ gg = c1 - k ∧ ChAt wr C R f g k tick ∧ Apart (fun b => b = C ∨ b = R) W wr)
  case atStart => exact ⟨core, Nat.le_refl _, h1, rfl, HC.out, Apart.refl _ _⟩
  case round =>
    obtain ⟨k, hk0, hk1, hg, hc, ha⟩ := hrel
    have HG := Lib.hid hg
    have HCK := Lib.hid hc
    have HA := Lib.hid ha
    obtain ⟨a0, a1, a2, a3, z2, z3⟩ := hc.heads
    have hk16 : k < 16 := by omega
    have a4 := hc.row.cell hk16
    have hkz : (k : Int) < 16 := by omega
    have hkz0 : (0 : Int) ≤ (k : Int) := by omega
    obtain ⟨x, hx⟩ : ∃ x, g k = x := ⟨_, rfl⟩
    rw [hx] at a4
    have HX := Lib.hid hx
    clear hc ha hg hx
    by_cases hlt : k < c1
    · have hx0 : x = 0 := by rw [← HX.out]; exact H4.out k hk0 hlt
      subst hx0
      clear HX
      go_wp2_with fail
      go_quiet (fail)
      go_wp2_with fail
      go_roundg (c1 - (k + 1))
      case measure => have := HG.out; omega
      case rel => exact ⟨k + 1, by omega, by omega, rfl, (HCK.out.drewN nq).setCore (k + 1), (HA.out.drewN nq).set (p := ⟨C, 2, none⟩) (.inl (.inl rfl)) _⟩
    · have hx0 : (x == 0) = false := by
        have := H3.out
        rw [show c1 = k by omega, HX.out] at this
        simpa using this
      go_wp2_with fail
      go_quiet (fail)
      go_wp2_with fail
      refine bodyPost_end (results_none rfl _ _ _) rfl ?_
      obtain rfl : c1 = k := by omega
      exact ⟨rfl, HCK.out.drewN nq, HA.out.drewN nq⟩

set_option maxRecDepth 100000 in
set_option maxHeartbeats 4000000 in
theorem take_any (W : World) (C R : Nat) (f : Int) (g : Nat → Int) (core tick c1 : Nat) (n : Int) (h : ChAt W C R f g core tick) (h1 : core ≤ c1) (h2 : c1 < 16) (h3 : 0 < g c1) (h4 : ∀ i, core ≤ i → i < c1 → g i = 0) (h5 : g c1 ≤ 1000) (h6 : 0 < n) (h7 : n ≤ 1000) :
    Calls Tryz.prog 134 #[.pointer (some ⟨C, 0, none⟩), .int .i64 n] W (ChPost C R f (.int .i64 (min n (g c1))) (fun i => if i = c1 then g c1 - min n (g c1) else g i) c1 tick W) := by
  have HSK := Lib.hid (skip_any W C R f g core tick c1 h h1 h2 (by omega) h4)
  obtain ⟨x, hx⟩ : ∃ x, g c1 = x := ⟨_, rfl⟩
  have HX := Lib.hid hx
  rw [hx] at h3 h5 ⊢
  obtain ⟨y, hy⟩ : ∃ y, min n x = y := ⟨_, rfl⟩
  have hy1 : 0 < y := by omega
  have hy2 : y ≤ x := by omega
  rw [hy]
  clear h h4 h1 hx
  go_enter Tryz.func134, Tryz.ntmps134
  go_wp2_with fail
  refine HSK.out.mono ?_
  rintro e w1 ⟨rfl, hc, ha⟩
  have HC := Lib.hid hc
  have HA := Lib.hid ha
  obtain ⟨a0, a1, a2, a3, z2, z3⟩ := hc.heads
  have a4 := hc.row.cell h2
  rw [HX.out] at a4
  have hkz : (c1 : Int) < 16 := by omega
  have hkz0 : (0 : Int) ≤ (c1 : Int) := by omega
  clear hc ha
  go_wp2_with fail
  go_quiet (fail)
  have HC2 := Lib.hid (HC.out.drewN nq)
  have HA2 := Lib.hid (HA.out.drewN nq)
  generalize w1.drewN nq = w2 at *
  clear a0 a1 a2 a3 a4 z2 z3 hy
  obtain ⟨a0, a1, a2, a3, z2, z3⟩ := HC2.out.heads
  have a4 := HC2.out.row.cell h2
  have a5 := HC2.out.row.frozen c1
  rw [HX.out] at a4
  go_wp2_with fail
  go_region
  go_wp2_with fail
  go_ret
  exact ⟨rfl, (HC2.out.setRoom c1 (x - y)).drew, (HA2.out.set (p := ⟨R, c1, none⟩) (.inl (.inr rfl)) _).drewN 1⟩
end Go.Proofs.YtpfpojehcjmfnaaGreat

/-
  A law on regions whose order is open: a load may be taken first where every operation that could come before it leaves the loaded cells as they are, though a store that waits for all loads writes them.
  Conditions: those of each law. The condition S is shown anew behind the operations that N names, not behind the others.
-/
namespace Go.Proofs.YtpfpojehcjmfnaaGreat
open Go

section
variable {P : Program} {ops : Array Oper} {Q : Exit → Act → World → Prop} {md : Region.Mode} {S1 S2 : World → Prop} {N : Nat → Bool}

/-- Whatever order is drawn; behind each operation the world meets S1, and an operation that N names keeps S2. -/
def wpAnyN (P : Program) (md : Region.Mode) (ops : Array Oper) (Q : Exit → Act → World → Prop) (S1 S2 : World → Prop) (N : Nat → Bool) : Nat → Array Bool → Act → World → Prop
  | 0, listed, a, w => Region.ready md ops listed = [] ∧ Q .normal a w
  | fuel + 1, listed, a, w =>
    (Region.ready md ops listed = [] → Q .normal a w) ∧
    ∀ i ∈ Region.ready md ops listed, wpOp P ops Q i (fun a' w' => (S1 w' ∧ (N i = true → S2 w → S2 w')) ∧ wpAnyN P md ops Q S1 S2 N fuel (listed.setIfInBounds i true) a' w') a w

theorem wpAny_of_N : ∀ (fuel : Nat) (listed : Array Bool) (a : Act) (w : World), wpAnyN P md ops Q S1 S2 N fuel listed a w → wpAny P md ops Q fuel listed a w
  | 0, _, _, _, h => h
  | fuel + 1, _, _, _, h => ⟨h.1, fun i hi => wpOp_mono (fun _ _ h' => wpAny_of_N fuel _ _ _ h'.2) (h.2 i hi)⟩

/-- What a taken operation may lean on: S1, and S2 where 'b2' says so. -/
def Leans (S1 S2 : World → Prop) (b2 : Bool) (w : World) : Prop := S1 w ∧ (b2 = true → S2 w)

/-- Operation i may be taken first: every other one that has not come up waits for it, or is apart from it and keeps what it leans on. -/
theorem wpAnyN_first {i : Nat} {oi : Oper} {v : Value} {b2 : Bool} (hi : ops[i]? = some oi) (hsel : ∀ (j : Nat) (o : Oper) cs b, ops[j]? = some o → o.op ≠ .select cs b)
    (hQ : ∀ c a w, Q (.panic c) (a.put oi.dst v) w → Q (.panic c) a w) :
    ∀ (fuel : Nat) (listed : Array Bool) (a : Act) (w : World),
      (∀ j oj, ops[j]? = some oj → j ≠ i → listed.getD j true = false → (∀ e ∈ oj.after, Region.binds md e = true → e.on ≠ i) → oi.apart ops oj = true ∧ (b2 = true → N j = true)) →
      i ∈ Region.ready md ops listed → YieldsIf P ops (Leans S1 S2 b2) oi v a → Leans S1 S2 b2 w →
      wpAnyN P md ops Q S1 S2 N fuel (listed.setIfInBounds i true) (a.put oi.dst v) w → wpAnyN P md ops Q S1 S2 N (fuel + 1) listed a w := by
  intro fuel
  induction fuel with
  | zero =>
    intro listed a w _ hr hy hS H
    refine ⟨fun h => (by rw [h] at hr; cases hr), fun j hj => ?_⟩
    by_cases hji : j = i
    · subst hji; exact hy.wpOp hi hS ⟨⟨hS.1, fun _ h => h⟩, H⟩
    · have := ready_mono hj hji
      rw [H.1] at this
      cases this
  | succ fuel ih =>
    intro listed a w hfree hr hy hS H
    refine ⟨fun h => (by rw [h] at hr; cases hr), fun j hj => ?_⟩
    by_cases hji : j = i
    · subst hji; exact hy.wpOp hi hS ⟨⟨hS.1, fun _ h => h⟩, H⟩
    · have h1 := H.2 j (ready_mono hj hji)
      obtain ⟨hjun, oj, hoj, hall⟩ := mem_ready.1 hj
      have hnot : ∀ e ∈ oj.after, Region.binds md e = true → e.on ≠ i := fun e he hb heq => by
        have h1 := hall e he hb
        have h0 := (mem_ready.1 hr).1
        rw [heq] at h1
        rcases Nat.lt_or_ge i listed.size with h' | h'
        · simp [h'] at h0 h1; rw [h0] at h1; cases h1
        · simp [Array.getElem?_eq_none h'] at h1
      obtain ⟨hap, hN⟩ := hfree j oj hoj hji hjun hnot
      have h2 := wpOp_putIf hoj hap (fun cs b => hsel i oi cs b hi) (fun cs b => hsel j oj cs b hoj) hQ hy h1
      have hfree' : ∀ k ok, ops[k]? = some ok → k ≠ i → (listed.setIfInBounds j true).getD k true = false →
          (∀ e ∈ ok.after, Region.binds md e = true → e.on ≠ i) → oi.apart ops ok = true ∧ (b2 = true → N k = true) := fun k ok hk hki hun hno => by
        refine hfree k ok hk hki ?_ hno
        by_cases hjk : j = k
        · subst hjk; exact hjun
        · rw [getD_set_ne true hjk] at hun; exact hun
      refine wpOp_mono (fun a' w' h3 => ⟨h3.2.1, ih (listed.setIfInBounds j true) a' w' hfree' (ready_mono hr (Ne.symm hji)) h3.1 ⟨h3.2.1.1, fun hb => h3.2.1.2 (hN hb) (hS.2 hb)⟩ ?_⟩) h2
      rw [Array.setIfInBounds_comm _ _ hji]
      exact h3.2.2

/-- The side condition as a Bool. -/
def freeOrd (md : Region.Mode) (ops : Array Oper) (N : Nat → Bool) (b2 : Bool) (listed : Array Bool) (i : Nat) : Bool :=
  match ops[i]? with
  | none => false
  | some oi => (List.range ops.size).all fun j => j == i || listed.getD j true || match ops[j]? with
      | some oj => oj.after.any (fun e => Region.binds md e && e.on == i) || (oi.apart ops oj && (!b2 || N j))
      | none => true

theorem freeOrd_spec {i : Nat} {oi : Oper} {b2 : Bool} {listed : Array Bool} (hi : ops[i]? = some oi) (h : freeOrd md ops N b2 listed i = true) (j : Nat) (oj : Oper)
    (hj : ops[j]? = some oj) (hne : j ≠ i) (hun : listed.getD j true = false) (hno : ∀ e ∈ oj.after, Region.binds md e = true → e.on ≠ i) :
    oi.apart ops oj = true ∧ (b2 = true → N j = true) := by
  simp only [freeOrd, hi, List.all_eq_true, List.mem_range] at h
  have h1 := h j (Array.getElem?_eq_some_iff.1 hj).1
  simp only [hj, Bool.or_eq_true, beq_iff_eq, hne, false_or, hun, Bool.false_eq_true, Bool.and_eq_true] at h1
  rcases h1 with h1 | h1
  · obtain ⟨e, he, hb⟩ := Array.any_eq_true'.1 h1
    simp only [Bool.and_eq_true, beq_iff_eq] at hb
    exact absurd hb.2 (hno e he hb.1)
  · refine ⟨h1.1, fun hb => ?_⟩
    rcases h1.2 with h2 | h2
    · rw [hb] at h2; cases h2
    · exact h2

theorem wpAnyN_take {i : Nat} {oi : Oper} {v : Value} {fuel : Nat} {listed : Array Bool} {a : Act} {w : World} (b2 : Bool) (hi : ops[i]? = some oi)
    (hs : Region.noSelect ops = true) (hf : freeOrd md ops N b2 listed i = true) (hr : (Region.ready md ops listed).contains i = true)
    (hQ : ∀ c a w, Q (.panic c) (a.put oi.dst v) w → Q (.panic c) a w) (hy : YieldsIf P ops (Leans S1 S2 b2) oi v a) (hS : Leans S1 S2 b2 w)
    (h : wpAnyN P md ops Q S1 S2 N fuel (listed.setIfInBounds i true) (a.put oi.dst v) w) : wpAnyN P md ops Q S1 S2 N (fuel + 1) listed a w :=
  wpAnyN_first hi (Region.noSelect_spec hs) hQ fuel listed a w (freeOrd_spec hi hf) (by simpa using hr) hy hS h

/-- One alone may come up. -/
theorem wpAnyN_step {i : Nat} {o : Oper} {fuel : Nat} {listed : Array Bool} {a : Act} {w : World} (hr : Region.ready md ops listed = [i]) (ho : ops[i]? = some o) (hw : Region.wanted o (yielded ops a.tmps) = true)
    (h : ∀ K' : Act → World → Prop, Shut (∀ a w', S1 w' → (N i = true → S2 w → S2 w') → wpAnyN P md ops Q S1 S2 N fuel (listed.setIfInBounds i true) a w' → K' a w') → Oper.wp P o a w K' Q) :
    wpAnyN P md ops Q S1 S2 N (fuel + 1) listed a w :=
  ⟨fun h0 => absurd (hr.symm.trans h0) (by intro e; cases e), fun j hj => by
    rw [hr] at hj
    obtain rfl := List.mem_singleton.1 hj
    exact wpOp_step ho (fun K' hK => by
      rw [if_pos hw]
      exact h K' (fun a w h1 h2 hW => hK a w ⟨⟨h1, h2⟩, hW⟩))⟩

theorem wpAnyN_done {listed : Array Bool} {a : Act} {w : World} (hr : Region.ready md ops listed = []) (h : Q .normal a w) : wpAnyN P md ops Q S1 S2 N 0 listed a w := ⟨hr, h⟩

theorem wp_region_N {id : Nat} {a : Act} {w : World} (hm : P.follows .mixedOrders = true)
    (h : wpAnyN P .any ops Q S1 S2 N ops.size (Array.replicate ops.size false) a w.drew) : (Code.region id ops true).wp P Q a w :=
  wp_region_any hm (wpAny_of_N _ _ _ _ h)
end
end Go.Proofs.YtpfpojehcjmfnaaGreat
