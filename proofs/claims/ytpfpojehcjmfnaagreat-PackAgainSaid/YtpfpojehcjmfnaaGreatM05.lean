/-
  Drop of program and document.
  Conditions: the slice reads as places.
-/
import Derived.Test.YtpfpojehcjmfnaaGreatM04
import Derived.Test.YtpfpojehcjmfnaaGreatM03

/-
  Find of program and document.
  Conditions: the slice reads as places.
-/
set_option linter.unusedVariables false
namespace Go.Proofs.YtpfpojehcjmfnaaGreat
open Go.RowKit

/-- What Find answers: the place, or a zero one; its pieces in blocks of F. -/
def RetFind (F : Nat → Prop) (o : Option Pl) (w : World) (e : Ending) (w' : World) : Prop :=
  ∃ v, e = .returned (.tuple #[plA v (o.getD zeroPl), .bool o.isSome]) ∧ PcsIn F w' v (o.getD zeroPl).ps ∧ Below w.heap.size w w'
theorem PcsIn.setRow {F : Nat → Prop} {W : World} {v : Value} {ps : List Pc} (h : PcsIn F W v ps) {N : Nat} {cs : Array Value} (hn : ¬ F N ∨ W.heap.size ≤ N) : PcsIn F (W.setRow N cs) v ps :=
  h.keepF (by simp) fun b hb hF => setRow_other _ _ _ _ (by
    intro e
    subst e
    rcases hn with hn | hn
    · exact hn hF
    · omega)

set_option maxRecDepth 100000 in
set_option maxHeartbeats 4000000 in
theorem find_any (f : Int) (m : Nat) (v : Value) (l : List Pl) (u : Int) (w : World) (h : PlsAt w v l) (hl : l.length ≤ 1000) (hp : ∀ x ∈ l, x.ps.length ≤ 1000) :
    Calls Tryz.prog 123 #[planA f m v, .int .i64 u] w (RetFind (fun b => w.heap.size ≤ b) (findU l u) w) := by
  have HL := Lib.hid h
  have HPL := Lib.hid hp
  obtain ⟨A, cA, rfl, hlc, hcm⟩ := h.form
  obtain ⟨n, hn⟩ : ∃ n, l.length = n := ⟨_, rfl⟩
  rw [hn] at HL hlc hl ⊢
  have HN := Lib.hid hn
  obtain ⟨w1, P, hw1, hP, hPl, hb1, hbox⟩ := box_any w #[.int .i64 f, .int .u32 m, .slice A n cA] 26
  obtain ⟨w2, U, hw2, hU, hUl, hb2, hub⟩ := box_any w1 #[.int .i64 u] 3
  obtain ⟨w3, R, hw3, hR, hRl, hb3, hrb⟩ := box_any w2 #[.int .i64 0, .int .i64 0, .int .i64 0, .slice none 0 0] 48
  have HB2 := Lib.hid (hb1.trans (hb2.mono hb1.size))
  have HB3 := Lib.hid (HB2.out.trans (hb3.mono HB2.out.size))
  have HPB := Lib.hid (keep_block (keep_block hbox hb2) hb3)
  have HRB := Lib.hid hrb
  have hU3 : U < w3.heap.size := Nat.lt_of_lt_of_le hUl hb3.size
  have hu0 : w3.cell? ⟨U, 0, none⟩ = some (.int .i64 u) := by
    have e := keep_block hub hb3
    simp [World.cell?, e]
  have HI := Lib.hid (indexPl_any (.slice A n cA) l u U w3 (HL.out.keep HB3.out) hU3 hu0)
  have HLT := Lib.hid (show w.heap.size ≤ P ∧ P < U ∧ U < R ∧ R < w3.heap.size by have := hb1.size; have := hb2.size; omega)
  obtain ⟨p0, p1, p2⟩ := three_heads HPB.out
  clear h hp hn hb1 hb2 hb3 hbox hub hrb
  unfold planA
  go_enter Tryz.func123, Tryz.ntmps123
  go_wp2_with fail
  refine HI.out.mono ?_
  rintro e w4 ⟨r, rfl, hr, hb4⟩
  have HB4 := Lib.hid (HB3.out.trans (hb4.mono HB3.out.size))
  have HP4 := Lib.hid (keep_block HPB.out hb4)
  have HR4 := Lib.hid (keep_block HRB.out hb4)
  clear hb4 p0 p1 p2 hw1 hP hw2 hU hw3 hu0
  rcases hr with ⟨rfl, hnone⟩ | ⟨k, x, rfl, hx, hfound⟩
  · have HE := Lib.hid hnone
    clear hnone
    go_wp2_with (refine wpList_store_row rfl _ _ _ rfl R #[.int .i64 0, .int .i64 0, .int .i64 0, .slice none 0 0] rfl rfl 48 _ HR4.out (Tryz.sizePl _ _ _ _) rfl (one4 _ _ _ _ _ _) ?_)
    refine bodyPost_ret (v := .tuple #[.agg #[.int .i64 0, .int .i64 0, .int .i64 0, .slice none 0 0], .bool false]) (results_row_tmp rfl _ _ R _ _ _ _ rfl (setRow_heap _ _ _ _ _ _ HR4.out) Tryz.underlying48 rfl (Tryz.sizePl _ _ _ _) _ rfl) rfl ?_
    rw [HE.out]
    exact ⟨_, rfl, PcsIn.nil _ _, below_row16 HB4.out (by have := HLT.out; omega) _⟩
  · have HE := Lib.hid hfound
    have HX := Lib.hid hx
    have hkn : k < n := by have := (List.getElem?_eq_some_iff.1 hx).1; have := HN.out; omega
    have hknz : (k : Int) < (n : Int) := by omega
    have hk0 : (0 : Int) ≤ (k : Int) := by omega
    have hkd : decide ((k : Int) < 0) = false := decide_eq_false (by omega)
    obtain ⟨b, off, B, d, hA, hbl, _, ⟨c0, c1, c2, c3⟩, hps⟩ := (HL.out.keep HB4.out).at_ hx
    subst hA
    simp only at c0 c1 c2 c3
    have HC := Lib.hid (clonePl_any (.slice B x.ps.length d) x w4 hps (HPL.out x (List.mem_of_getElem? hx)))
    unfold plA at HC
    obtain ⟨r0, r1, r2⟩ := three_heads HP4.out
    clear hx hfound hps
    go_wp2_with fail
    refine HC.out.mono ?_
    rintro e w5 ⟨v', rfl, hps5, hb5⟩
    have HPS := Lib.hid hps5
    have HB5 := Lib.hid (HB4.out.trans (hb5.mono HB4.out.size))
    have HR5 := Lib.hid (keep_block HR4.out hb5)
    have HS4 := Lib.hid (show R < w4.heap.size from heap_lt HR4.out)
    obtain ⟨A', d', hv'⟩ := hps5.form
    subst hv'
    clear hb5 hps5 r0 r1 r2
    unfold plA
    go_wp2_with (refine wpList_store_row rfl _ _ _ rfl R #[.int .i64 x.u, .int .i64 x.s, .int .i64 x.c, .slice A' x.ps.length d'] rfl rfl 48 _ HR5.out (Tryz.sizePl _ _ _ _) rfl (one4 _ _ _ _ _ _) ?_)
    refine bodyPost_ret (v := .tuple #[.agg #[.int .i64 x.u, .int .i64 x.s, .int .i64 x.c, .slice A' x.ps.length d'], .bool true]) (results_row_tmp rfl _ _ R _ _ _ _ rfl (setRow_heap _ _ _ _ _ _ HR5.out) Tryz.underlying48 rfl (Tryz.sizePl _ _ _ _) _ rfl) rfl ?_
    rw [HE.out]
    refine ⟨_, rfl, ?_, below_row16 HB5.out (by have := HLT.out; omega) _⟩
    exact (HPS.out.setRow (.inl (by have := HS4.out; omega))).mono fun b _ hF => Nat.le_trans HB4.out.size hF

set_option maxRecDepth 100000 in
set_option maxHeartbeats 4000000 in
theorem refFind_any (f : Int) (m : Nat) (v : Value) (l : List Pl) (u : Int) (w : World) (h : PlsAt w v l) (hl : l.length ≤ 1000) :
    Calls Tryz.prog 22 #[planA f m v, .int .i64 u] w (RetFind Any (findU l u) w) := by
  have HL := Lib.hid h
  obtain ⟨A, cA, rfl, hlc, hcm⟩ := h.form
  obtain ⟨n, hn⟩ : ∃ n, l.length = n := ⟨_, rfl⟩
  rw [hn] at HL hlc hl ⊢
  have HN := Lib.hid hn
  obtain ⟨w1, P, hw1, hP, hPl, hb1, hbox⟩ := box_any w #[.int .i64 f, .int .u32 m, .slice A n cA] 26
  obtain ⟨w3, R, hw3, hR, hRl, hb3, hrb⟩ := box_any w1 #[.int .i64 0, .int .i64 0, .int .i64 0, .slice none 0 0] 48
  have HB3 := Lib.hid (hb1.trans (hb3.mono hb1.size))
  have HPB := Lib.hid (keep_block hbox hb3)
  have HRB := Lib.hid hrb
  have HLT := Lib.hid (show w.heap.size ≤ P ∧ P < R ∧ R < w3.heap.size by have := hb1.size; omega)
  obtain ⟨p0, p1, p2⟩ := three_heads HPB.out
  clear h hn hb1 hb3 hbox hrb
  unfold planA
  go_enter Tryz.func22, Tryz.ntmps22
  go_wp2_with fail
  clear hw1 hP hw3 hR
  go_loopg [6] n (fun gg s6 wr => ∃ k : Nat, k ≤ n ∧ gg = n - k ∧ s6 = .int .i64 k ∧ Hid (findU (l.take k) u = none) ∧ w3 = wr)
  case atStart => exact ⟨0, Nat.zero_le _, by omega, rfl, rfl, rfl⟩
  case round =>
    obtain ⟨k, hk, hg, rfl, HF, rfl⟩ := hrel
    have HG := Lib.hid hg
    clear hg
    by_cases hlt : k < n
    · have hltz : (k : Int) < (n : Int) := by omega
      have hk0 : (0 : Int) ≤ (k : Int) := by omega
      obtain ⟨x, hx⟩ := exP_at (xs := l) (k := k) (by rw [HN.out]; exact hlt)
      obtain ⟨b, off, B, d, hA, hbl, _, hpl, hps⟩ := HL.out.at_ hx
      obtain ⟨c0, c1, c2, c3⟩ := hpl.keep (HB3.out.block b hbl)
      subst hA
      simp only at c0 c1 c2 c3
      have HX := Lib.hid hx
      have HPS := Lib.hid ((hps.mono (G := fun b => b < w.heap.size) fun b hb _ => hb).keep HB3.out)
      clear hx hps hpl
      by_cases hu : x.u = u
      · have hu1 : (x.u == u) = true := by simpa using hu
        have HE := Lib.hid (findU_hit HF HX.out hu)
        clear hu
        go_wp2_with (refine wpList_store_row rfl _ _ _ rfl R #[.int .i64 x.u, .int .i64 x.s, .int .i64 x.c, .slice B x.ps.length d] rfl rfl 48 _ HRB.out (Tryz.sizePl _ _ _ _) rfl (one4 _ _ _ _ _ _) ?_)
        refine bodyPost_ret (v := .tuple #[.agg #[.int .i64 x.u, .int .i64 x.s, .int .i64 x.c, .slice B x.ps.length d], .bool true]) (results_row_tmp rfl _ _ R _ _ _ _ rfl (setRow_heap _ _ _ _ _ _ HRB.out) Tryz.underlying48 rfl (Tryz.sizePl _ _ _ _) _ rfl) rfl ?_
        rw [HE.out]
        refine ⟨_, rfl, ?_, below_row16 HB3.out (by have := HLT.out; omega) _⟩
        exact (HPS.out.setRow (.inl (by have := HLT.out; omega))).any
      · have hu1 : (x.u == u) = false := by simpa using hu
        have HE := Lib.hid (findU_miss HF HX.out hu)
        clear hu
        go_wp2_with fail
        go_roundg (n - (k + 1))
        case measure => have := HG.out; omega
        case rel => exact ⟨k + 1, by omega, rfl, by go_num, HE.out, rfl⟩
    · have hltz : ¬ (k : Int) < (n : Int) := by omega
      have HE : Hid (findU l u = none) := by
        have h : findU (l.take k) u = none := HF
        rwa [List.take_of_length_le (by rw [HN.out]; omega)] at h
      go_wp2_with (refine wpList_store_row rfl _ _ _ rfl R #[.int .i64 0, .int .i64 0, .int .i64 0, .slice none 0 0] rfl rfl 48 _ HRB.out (Tryz.sizePl _ _ _ _) rfl (one4 _ _ _ _ _ _) ?_)
      refine bodyPost_ret (v := .tuple #[.agg #[.int .i64 0, .int .i64 0, .int .i64 0, .slice none 0 0], .bool false]) (results_row_tmp rfl _ _ R _ _ _ _ rfl (setRow_heap _ _ _ _ _ _ HRB.out) Tryz.underlying48 rfl (Tryz.sizePl _ _ _ _) _ rfl) rfl ?_
      rw [HE.out]
      exact ⟨_, rfl, PcsIn.nil _ _, below_row16 HB3.out (by have := HLT.out; omega) _⟩
end Go.Proofs.YtpfpojehcjmfnaaGreat

/-
  The page's plan.
  Conditions: none.
-/
set_option linter.unusedVariables false
namespace Go.Proofs.YtpfpojehcjmfnaaGreat
open Go.RowKit

/-- What a call answers: this plan, its places in blocks of F. -/
def RetPn (F : Nat → Prop) (f : Int) (m : Nat) (l : List Pl) (w : World) (e : Ending) (w' : World) : Prop := ∃ v, e = .returned (planA f m v) ∧ PlsIn F w' v l ∧ Below w.heap.size w w'
theorem below_row {B g : Nat} {a w : World} (h : Below B a w) (hg : B ≤ g) (cs : Array Value) : Below B a (w.setRow g cs) := below_row16 h hg cs
theorem PlsIn.setRow {F : Nat → Prop} {W : World} {v : Value} {l : List Pl} (h : PlsIn F W v l) {N : Nat} {cs : Array Value} (hn : ¬ F N ∨ W.heap.size ≤ N) : PlsIn F (W.setRow N cs) v l :=
  h.keepF (by simp) fun b hb hF => setRow_other _ _ _ _ (by
    intro e
    subst e
    rcases hn with hn | hn
    · exact hn hF
    · omega)
theorem one3 (f : Int) (m : Nat) (A : Option Addr) (n d : Nat) : (#[.int .i64 f, .int .u32 m, .slice A n d] : Array Value).all (·.oneCell') = true := by simp [Value.oneCell']

end Go.Proofs.YtpfpojehcjmfnaaGreat

/-
  Drop of program and document.
  Conditions: the slice reads as places.
-/
set_option linter.unusedVariables false
namespace Go.Proofs.YtpfpojehcjmfnaaGreat
open Go.RowKit

/-- A plan without a unit's place. -/
def dropT (l : List Pl) (u : Int) : List Pl := l.filter fun x => !decide (x.u = u)
theorem drop_take {l : List Pl} {k : Nat} {x : Pl} {u : Int} (hx : l[k]? = some x) : dropT (l.take (k + 1)) u = dropT (l.take k) u ++ (if x.u = u then [] else [x]) := by
  unfold dropT
  rw [List.take_add_one, hx, Option.toList_some, List.filter_append]
  congr 1
  by_cases h : x.u = u
  · simp [h]
  · simp [h]
theorem drop_le (l : List Pl) (u : Int) : (dropT l u).length ≤ l.length := List.length_filter_le _ _
theorem plsR_length (ls : List Rp) : (plsR ls).length = ls.length := by unfold plsR; simp
theorem plsR_snoc (ls : List Rp) (r : Rp) : plsR (ls ++ [r]) = plsR ls ++ [r.2] := by simp [plsR]

/-- A row of places of one's own, their pieces in blocks of F that are not the row's. -/
structure RowPl (W : World) (base : Nat) (F : Nat → Prop) (v : Value) (ls : List Rp) : Prop where
  own : W.ownsRow base 48 4 v ls.length (rowP ls)
  pcs : AllPcs (fun b => F b ∧ v.ownBlock ≠ some b) W ls
theorem RowPl.nil (W : World) (base : Nat) (F : Nat → Prop) : RowPl W base F (.slice none 0 0) [] := ⟨World.ownsRow_nil _ _ _ _, AllPcs.nil _ _⟩
theorem RowPl.keep {W W' : World} {base : Nat} {F : Nat → Prop} {v : Value} {ls : List Rp} (h : RowPl W base F v ls) (hb : Below W.heap.size W W') : RowPl W' base F v ls := ⟨own_below5 h.own hb, h.pcs.keep hb⟩
theorem RowPl.snoc {W W' : World} {base : Nat} {F : Nat → Prop} {v v' : Value} {ls : List Rp} {r : Rp} (h : RowPl W base F v ls) (hr : PcsIn (fun b => F b ∧ v.ownBlock ≠ some b) W (rpV r) r.2.ps)
    (ho : W'.ownsRow base 48 4 v' (ls.length + 1) (rowP ls ++ rpCells r)) (hg : W.grownBy W' v.ownBlock) (hat : v'.ownBlock = v.ownBlock ∨ v'.ownBlock = some W.heap.size) : RowPl W' base F v' (ls ++ [r]) := by
  have hall := h.pcs.snoc hr
  refine ⟨by rw [rowP_snoc, List.length_append]; exact ho, (hall.mono (G := fun b => b < W.heap.size ∧ F b ∧ v.ownBlock ≠ some b) fun b hb hF => ⟨hb, hF⟩).keepF hg.size (fun b hb hF => hg.block b hb fun e => hF.2.2 e.symm) |>.mono fun b _ hF => ⟨hF.2.1, fun e => ?_⟩⟩
  rcases hat with hat | hat
  · exact hF.2.2 (hat ▸ e)
  · rw [hat] at e
    have := Option.some.inj e
    omega
/-- From another base, where the blocks from there on are as they were. -/
theorem RowPl.at_base {W W' : World} {base base' : Nat} {v : Value} {ls : List Rp} (h : RowPl W base (fun b => base ≤ b) v ls) (hb : base' ≤ base) (hs : W.heap.size ≤ W'.heap.size) (hk : ∀ b, base ≤ b → W'.heap[b]? = W.heap[b]?) : RowPl W' base' (fun b => base' ≤ b) v ls :=
  ⟨own_mono5 (own_keep h.own fun k hv => hk k (own_base5 h.own k hv)) hb, (h.pcs.keepF hs fun b _ hF => hk b hF.1).mono fun b _ hF => ⟨by have := hF.1; omega, hF.2⟩⟩
/-- What a call answers: this plan, its places in a row of the call's own. -/
def RetRow (f : Int) (m : Nat) (l : List Pl) (w : World) (e : Ending) (w' : World) : Prop := ∃ v ls, e = .returned (planA f m v) ∧ plsR ls = l ∧ RowPl w' w.heap.size (fun b => w.heap.size ≤ b) v ls ∧ Below w.heap.size w w'
theorem news_rp (W : World) (t : Nat) (r : Rp) : ∀ j u, (rpCells r)[j]? = some u → (W.alloc (.cells #[.int .i64 r.2.u, .int .i64 r.2.s, .int .i64 r.2.c, rpV r] t)).cell? ((⟨W.heap.size, 0, none⟩ : Addr).add j) = some u := World.news_of_block (heap_alloc_new W _)
/-- The end of a call that puts places into its plan and answers it. -/
theorem pn_end {w W : World} {P R : Nat} {F : Nat → Prop} {A : Option Addr} {n d : Nat} {l : List Pl} (hpl : PlsIn F W (.slice A n d) l) (hFP : ¬ F P) (hFR : ¬ F R) (hb : Below w.heap.size w W) (hP : w.heap.size ≤ P) (hR : w.heap.size ≤ R) (cs : Array Value) :
    PlsIn F ((W.setCell ⟨P, 2, none⟩ (.slice A n d)).setRow R cs) (.slice A n d) l ∧ Below w.heap.size w ((W.setCell ⟨P, 2, none⟩ (.slice A n d)).setRow R cs) :=
  ⟨PlsIn.setRow (hpl.keepF (by simp [World.setCell]) fun b hb hF => Below.heap_setCell _ _ _ _ (by intro e; subst e; exact hFP hF)) (.inl hFR), below_row (hb.setCell (p := ⟨P, 2, none⟩) hP _) hR _⟩

/-- What a call answers: this plan, its places' row there even if it is empty. -/
def RetPs (F : Nat → Prop) (f : Int) (m : Nat) (l : List Pl) (w : World) (e : Ending) (w' : World) : Prop := ∃ b o c, e = .returned (planA f m (.slice (some ⟨b, o, none⟩) l.length c)) ∧ PlsIn F w' (.slice (some ⟨b, o, none⟩) l.length c) l ∧ Below w.heap.size w w'
theorem own_some {w : World} {base e size n : Nat} {v : Value} {xs : List Value} (h : w.ownsRow base e size v n xs) (hn : v ≠ .slice none 0 0) : ∃ g o c, v = .slice (some ⟨g, o, none⟩) n c := by
  rcases h.2 with ⟨rfl, h0⟩ | ⟨g, cap, cur, rfl, _⟩
  · exact absurd rfl hn
  · exact ⟨_, _, _, rfl⟩

set_option maxRecDepth 100000 in
set_option maxHeartbeats 4000000 in
theorem planDrop_any (f : Int) (m : Nat) (v : Value) (l : List Pl) (u : Int) (w : World) (h : PlsAt w v l) (hl : l.length ≤ 1000) (hp : ∀ x ∈ l, x.ps.length ≤ 1000) :
    Calls Tryz.prog 78 #[planA f m v, .int .i64 u] w (RetRow f m (dropT l u) w) := by
  obtain ⟨i0, hi, hz0, hz1, hz2⟩ := info_parts Tryz.infoPl
  have HPL := Lib.hid hp
  obtain ⟨A, cA, rfl, hlc, hcm⟩ := h.form
  have HL := Lib.hid h
  obtain ⟨w1, P, hw1, hP, hPl, hb1, hbox⟩ := box_any w #[.int .i64 f, .int .u32 m, .slice A l.length cA] 26
  obtain ⟨w2, R, hw2, hR, hRl, hb2, hrox⟩ := box_any w1 #[.int .i64 0, .int .u32 0, .slice none 0 0] 26
  obtain ⟨n, hn⟩ : ∃ n, l.length = n := ⟨_, rfl⟩
  rw [hn] at HL hlc hl hw1 hbox ⊢
  have HN := Lib.hid hn
  have HB1 := Lib.hid (hb1.trans (hb2.mono hb1.size))
  have HBOX := Lib.hid (keep_block hbox hb2)
  have HROX := Lib.hid hrox
  have HLT := Lib.hid (show w.heap.size ≤ P ∧ P < R ∧ R < w2.heap.size ∧ w.heap.size ≤ w2.heap.size by have := hb1.size; have := hb2.size; omega)
  obtain ⟨r0, r1, r2⟩ := three_heads HBOX.out
  clear h hn hb1 hb2 hbox hrox
  unfold planA
  go_enter Tryz.func78, Tryz.ntmps78
  go_wp2_with fail
  clear hw1 hP hw2 hR r0 r1 r2
  go_loopg [5, 7, 11] n (fun gg s5 _ s11 wr => ∃ (k : Nat) (ls : List Rp), k ≤ n ∧ gg = n - k ∧ s11 = .int .i64 k ∧ Below w2.heap.size w2 wr ∧ plsR ls = dropT (l.take k) u ∧ RowPl wr w2.heap.size (fun b => w2.heap.size ≤ b) s5 ls)
  case atStart => exact ⟨0, [], Nat.zero_le _, by omega, rfl, Below.refl _ _, rfl, RowPl.nil _ _ _⟩
  case round =>
    obtain ⟨k, ls, hk, hg, rfl, hbw, hls, hrow⟩ := hrel
    have HBW := Lib.hid hbw
    have HB := Lib.hid (HB1.out.trans (hbw.mono HB1.out.size))
    have HG := Lib.hid hg
    have HLS := Lib.hid hls
    have HRW := Lib.hid hrow
    have HBX := Lib.hid (keep_block HBOX.out hbw)
    have HRX := Lib.hid (keep_block HROX.out hbw)
    obtain ⟨r0, r1, r2⟩ := three_heads HBX.out
    clear hbw hg hls hrow
    by_cases hlt : k < n
    · have hk0 : (0 : Int) ≤ (k : Int) := by omega
      have hltz : (k : Int) < (n : Int) := by omega
      obtain ⟨x, hx⟩ := exP_at (xs := l) (k := k) (by rw [HN.out]; exact hlt)
      obtain ⟨b, off, B, d, hA, hbl, _, hpl, hps⟩ := HL.out.at_ hx
      obtain ⟨c0, c1, c2, c3⟩ := hpl.keep (HB.out.block b hbl)
      subst hA
      simp only at c0 c1 c2 c3
      have HX := Lib.hid hx
      have HPS := Lib.hid hps
      clear hx hps hpl
      have HKW := Lib.hid (HPS.out.keep HB.out)
      obtain ⟨w3, N, hw3, hN, hNl, hb3, hxbox⟩ := box_any wr #[.int .i64 x.u, .int .i64 x.s, .int .i64 x.c, .slice B x.ps.length d] 48
      have HB2 := Lib.hid hb3
      have HXB := Lib.hid hxbox
      obtain ⟨x0, x1, x2, x3⟩ := four_heads hxbox
      obtain ⟨p0, p1, p2⟩ := three_heads (keep_block HBX.out hb3)
      clear hb3 hxbox
      have HBX2 := Lib.hid (HBW.out.trans (HB2.out.mono HBW.out.size))
      have HR2 := Lib.hid (HRW.out.keep HB2.out)
      have HDT := Lib.hid (drop_take (u := u) HX.out)
      have HKW2 := Lib.hid (HKW.out.keep HB2.out)
      clear p0 p1 p2
      by_cases hu : x.u = u
      · have hu1 : (x.u != u) = false := by simpa using hu
        rw [if_pos hu, List.append_nil] at HDT
        clear hu
        go_wp2_with fail
        go_roundg (n - (k + 1))
        case measure => have := HG.out; omega
        case rel => exact ⟨k + 1, ls, by omega, rfl, by go_num, HBX2.out, HLS.out.trans HDT.out.symm, HR2.out⟩
      · have hu1 : (x.u != u) = true := by simpa using hu
        rw [if_neg hu] at HDT
        have HCL := Lib.hid (clonePl_any (.slice B x.ps.length d) x _ HKW2.out (HPL.out x (List.mem_of_getElem? HX.out)))
        unfold plA at HCL
        clear hu
        go_wp2_with fail
        refine HCL.out.mono ?_
        rintro e w4 ⟨v4, rfl, hps4, hb4⟩
        obtain ⟨A4, d4, rfl⟩ := hps4.form
        have HB4 := Lib.hid (HBX2.out.trans (hb4.mono HBX2.out.size))
        have HR4 := Lib.hid (HR2.out.keep hb4)
        have hsz := HB4.out.size
        have hlt5 := HBX2.out.size
        have HP4 : Hid (PcsIn (fun b => w2.heap.size ≤ b ∧ u5.ownBlock ≠ some b) w4 (rpV ((A4, d4), x)) x.ps) := Lib.hid (hps4.mono fun b _ hF => ⟨Nat.le_trans hlt5 hF, fun e => by
          have := own_lt HR2.out.own e
          omega⟩)
        have hle : ls.length ≤ 1000 := by
          rw [← plsR_length, HLS.out]
          exact Nat.le_trans (drop_le _ _) (by rw [List.length_take]; omega)
        clear hps4 hb4 x0 x1 x2 x3 c0 c1 c2 c3 hw3 hlt5
        unfold plA
        go_wp2_with (at_builtin; refine wpList_append_own_at _ rfl _ _ 24 rfl w2.heap.size 48 i0 (.agg #[.int .i64 0, .int .i64 0, .int .i64 0, .slice none 0 0]) 4 48 Tryz.underlying24 hi hz0 hz1 hz2 rfl (by decide) _ _ _ rfl (HR4.out.own.alloc _) ⟨w4.heap.size, 0, none⟩ 1 1 (rpCells ((A4, d4), x)) rfl rfl ?c1 ?c2 ?c3 ?c4 ?c5 ?_)
        case c1 => exact news_rp w4 _ ((A4, d4), x)
        case c2 => exact rp_one _
        case c3 => unfold maxLen; omega
        case c4 => omega
        case c5 => simp; omega
        intro v6 w6 hown6 hgrow _ hat
        have hba := (Below.refl w4.heap.size w4).alloc (Nat.le_refl _) (.cells #[.int .i64 x.u, .int .i64 x.s, .int .i64 x.c, .slice A4 x.ps.length d4] 48)
        have HB6 := Lib.hid ((HB4.out.alloc hsz _).trans (below_grown5 hgrow (by simp; omega) (own_base5 HR4.out.own)))
        have HR6 := Lib.hid ((HR4.out.keep hba).snoc (HP4.out.keep hba) hown6 hgrow (hat.imp id fun e => e.trans (by simp)))
        clear hown6 hgrow hsz hat hba
        go_wp2_with fail
        go_roundg (n - (k + 1))
        case measure => have := HG.out; omega
        case rel => exact ⟨k + 1, ls ++ [((A4, d4), x)], by omega, rfl, by go_num, HB6.out, by rw [plsR_snoc, HLS.out, HDT.out], HR6.out⟩
    · have hltz : ¬ (k : Int) < (n : Int) := by omega
      have HEQ : Hid (plsR ls = dropT l u) := Lib.hid (by rw [HLS.out, List.take_of_length_le (by rw [HN.out]; omega)])
      obtain ⟨A5, c5, hv5⟩ := own_form HRW.out.own
      subst hv5
      have HPN := Lib.hid (pls_of_own HRW.out.own (HRW.out.pcs.mono (G := fun b => w2.heap.size ≤ b) fun b _ hF => hF.1))
      rw [HEQ.out] at HPN
      have hlt4 := HLT.out
      have HP9 : Hid ((wr.setCell ⟨P, 2, none⟩ (.slice A5 ls.length c5)).heap[P]? = some (.cells #[.int .i64 f, .int .u32 m, .slice A5 ls.length c5] 26 (0, 0))) := heap_setCell_mem _ _ _ _ _ _ _ HBX.out
      have HR9 : Hid ((wr.setCell ⟨P, 2, none⟩ (.slice A5 ls.length c5)).heap[R]? = some (.cells #[.int .i64 0, .int .u32 0, .slice none 0 0] 26 (0, 0))) := (Below.heap_setCell _ _ _ _ (show R ≠ P by omega)).trans HRX.out
      obtain ⟨g0, g1, g2⟩ := three_heads HP9.out
      obtain ⟨fr⟩ : wr.frozen? ⟨P, 2, none⟩ = false ∧ True := ⟨by have e := HBX.out; simp [World.frozen?, e], trivial⟩
      go_wp2_with (refine wpList_store_row rfl _ _ _ rfl R #[.int .i64 f, .int .u32 m, .slice A5 ls.length c5] rfl rfl 26 _ HR9.out (Tryz.sizePn _ _ _) rfl (one3 _ _ _ _ _) ?_)
      refine bodyPost_ret (v := planA f m (.slice A5 ls.length c5)) (results_cell_row rfl _ _ R _ _ _ _ rfl (setRow_heap _ _ _ _ _ _ HR9.out) Tryz.underlying26 rfl (Tryz.sizePn _ _ _)) rfl ?_
      refine ⟨_, ls, rfl, HEQ.out, ?_, (pn_end (l := dropT l u) (F := fun b => w2.heap.size ≤ b) (HPN.out.mono fun b _ h => h.elim id id) (by omega) (by omega) HB.out HLT.out.1 (by omega) _).2⟩
      exact HRW.out.at_base (by omega) (by simp [World.setRow, World.setCell]) fun b hb => (setRow_other _ _ _ _ (by omega)).trans (Below.heap_setCell _ _ _ _ (show b ≠ P by omega))

set_option maxRecDepth 100000 in
set_option maxHeartbeats 4000000 in
theorem refDrop_any (G : Nat → Prop) (f : Int) (m : Nat) (v : Value) (l : List Pl) (u : Int) (w : World) (h : PlsIn G w v l) (hl : l.length ≤ 1000) :
    Calls Tryz.prog 141 #[planA f m v, .int .i64 u] w (RetPs (fun b => G b ∨ w.heap.size ≤ b) f m (dropT l u) w) := by
  obtain ⟨i0, hi, hz0, hz1, hz2⟩ := info_parts Tryz.infoPl
  obtain ⟨A, cA, rfl, hlc, hcm⟩ := h.form
  have HL := Lib.hid h
  obtain ⟨w1, P, hw1, hP, hPl, hb1, hbox⟩ := box_any w #[.int .i64 f, .int .u32 m, .slice A l.length cA] 26
  obtain ⟨w2, R, hw2, hR, hRl, hb2, hrox⟩ := box_any w1 #[.int .i64 0, .int .u32 0, .slice none 0 0] 26
  obtain ⟨n, hn⟩ : ∃ n, l.length = n := ⟨_, rfl⟩
  rw [hn] at HL hlc hl hw1 hbox ⊢
  have HN := Lib.hid hn
  have HB1 := Lib.hid (hb1.trans (hb2.mono hb1.size))
  have HBOX := Lib.hid (keep_block hbox hb2)
  have HROX := Lib.hid hrox
  have HLT := Lib.hid (show w.heap.size ≤ P ∧ P < R ∧ R < w2.heap.size ∧ w.heap.size ≤ w2.heap.size by have := hb1.size; have := hb2.size; omega)
  obtain ⟨r0, r1, r2⟩ := three_heads HBOX.out
  clear h hn hb1 hb2 hbox hrox
  unfold planA
  go_enter Tryz.func141, Tryz.ntmps141
  go_wp2_with fail
  have HB0 := Lib.hid (show Below w2.heap.size w2 (w2.alloc (Obj.cells #[] 48)) from (Below.refl _ _).alloc (Nat.le_refl _) _)
  have HO0 : Hid ((w2.alloc (Obj.cells #[] 48)).ownsRow w2.heap.size 48 4 (.slice (some ⟨w2.heap.size, 0, none⟩) 0 0) 0 []) :=
    ⟨rfl, .inr ⟨w2.heap.size, 0, #[], rfl, Nat.le_refl _, heap_alloc_new w2 _, Nat.le_refl _, Nat.zero_le _, rfl, rfl⟩⟩
  clear hw1 hP hw2 hR r0 r1 r2
  go_loopg [5, 6] n (fun gg s5 s6 wr => ∃ (k : Nat) (ls : List Rp), k ≤ n ∧ gg = n - k ∧ s6 = .int .i64 k ∧ Below w2.heap.size w2 wr ∧ plsR ls = dropT (l.take k) u ∧ RowPl wr w2.heap.size (fun b => G b ∧ b < w.heap.size) s5 ls ∧ s5 ≠ .slice none 0 0)
  case atStart => exact ⟨0, [], Nat.zero_le _, by omega, rfl, HB0.out, rfl, ⟨HO0.out, AllPcs.nil _ _⟩, fun e => by cases e⟩
  case round =>
    obtain ⟨k, ls, hk, hg, rfl, hbw, hls, hrow, hnn⟩ := hrel
    have HNN := Lib.hid hnn
    clear hnn
    have HBW := Lib.hid hbw
    have HB := Lib.hid (HB1.out.trans (hbw.mono HB1.out.size))
    have HG := Lib.hid hg
    have HLS := Lib.hid hls
    have HRW := Lib.hid hrow
    have HBX := Lib.hid (keep_block HBOX.out hbw)
    have HRX := Lib.hid (keep_block HROX.out hbw)
    obtain ⟨r0, r1, r2⟩ := three_heads HBX.out
    clear hbw hg hls hrow
    by_cases hlt : k < n
    · have hk0 : (0 : Int) ≤ (k : Int) := by omega
      have hltz : (k : Int) < (n : Int) := by omega
      obtain ⟨x, hx⟩ := exP_at (xs := l) (k := k) (by rw [HN.out]; exact hlt)
      obtain ⟨b, off, B, d, hA, hbl, _, hpl, hps⟩ := HL.out.at_ hx
      obtain ⟨c0, c1, c2, c3⟩ := hpl.keep (HB.out.block b hbl)
      subst hA
      simp only at c0 c1 c2 c3
      have HX := Lib.hid hx
      have HPS := Lib.hid hps
      clear hx hps hpl
      have HDT := Lib.hid (drop_take (u := u) HX.out)
      have HKW := Lib.hid ((HPS.out.mono (G := fun b => b < w.heap.size ∧ G b) fun b hb hF => ⟨hb, hF⟩).keep HB.out)
      by_cases hu : x.u = u
      · have hu1 : (x.u != u) = false := by simpa using hu
        rw [if_pos hu, List.append_nil] at HDT
        clear hu
        go_wp2_with fail
        go_roundg (n - (k + 1))
        case measure => have := HG.out; omega
        case rel => exact ⟨k + 1, ls, by omega, rfl, by go_num, HBW.out, HLS.out.trans HDT.out.symm, HRW.out, HNN.out⟩
      · have hu1 : (x.u != u) = true := by simpa using hu
        rw [if_neg hu] at HDT
        clear hu
        have hsz := HBW.out.size
        have hwl := HLT.out
        have HP4 : Hid (PcsIn (fun b => (G b ∧ b < w.heap.size) ∧ u5.ownBlock ≠ some b) wr (rpV ((B, d), x)) x.ps) := Lib.hid (HKW.out.mono fun b _ hF => ⟨⟨hF.2, hF.1⟩, fun e => by
          have := own_base5 HRW.out.own _ e
          omega⟩)
        have hle : ls.length ≤ 1000 := by
          rw [← plsR_length, HLS.out]
          exact Nat.le_trans (drop_le _ _) (by rw [List.length_take]; omega)
        go_wp2_with (at_builtin; refine wpList_append_own_at _ rfl _ _ 24 rfl w2.heap.size 48 i0 (.agg #[.int .i64 0, .int .i64 0, .int .i64 0, .slice none 0 0]) 4 48 Tryz.underlying24 hi hz0 hz1 hz2 rfl (by decide) _ _ _ rfl (HRW.out.own.alloc _) ⟨wr.heap.size, 0, none⟩ 1 1 (rpCells ((B, d), x)) rfl rfl ?c1 ?c2 ?c3 ?c4 ?c5 ?_)
        case c1 => exact news_rp wr _ ((B, d), x)
        case c2 => exact rp_one _
        case c3 => unfold maxLen; omega
        case c4 => omega
        case c5 => simp; omega
        intro v6 w6 hown6 hgrow hnil hat
        have HNN6 := Lib.hid (show v6 ≠ .slice none 0 0 from fun e => hnil e)
        have hba := (Below.refl wr.heap.size wr).alloc (Nat.le_refl _) (.cells #[.int .i64 x.u, .int .i64 x.s, .int .i64 x.c, .slice B x.ps.length d] 48)
        have HB6 := Lib.hid ((HBW.out.alloc hsz _).trans (below_grown5 hgrow (by simp; omega) (own_base5 HRW.out.own)))
        have HR6 := Lib.hid ((HRW.out.keep hba).snoc (HP4.out.keep hba) hown6 hgrow (hat.imp id fun e => e.trans (by simp)))
        clear hown6 hgrow hsz hat hba hwl hnil
        go_wp2_with fail
        go_roundg (n - (k + 1))
        case measure => have := HG.out; omega
        case rel => exact ⟨k + 1, ls ++ [((B, d), x)], by omega, rfl, by go_num, HB6.out, by rw [plsR_snoc, HLS.out, HDT.out], HR6.out, HNN6.out⟩
    · have hltz : ¬ (k : Int) < (n : Int) := by omega
      have HEQ : Hid (plsR ls = dropT l u) := Lib.hid (by rw [HLS.out, List.take_of_length_le (by rw [HN.out]; omega)])
      obtain ⟨g5, off5, c5, hv5⟩ := own_some HRW.out.own HNN.out
      subst hv5
      have HPN := Lib.hid (pls_of_own HRW.out.own (HRW.out.pcs.mono (G := fun b => G b ∧ b < w.heap.size) fun b _ hF => hF.1))
      rw [HEQ.out] at HPN
      have hlt4 := HLT.out
      have HP9 : Hid ((wr.setCell ⟨P, 2, none⟩ (.slice (some ⟨g5, off5, none⟩) ls.length c5)).heap[P]? = some (.cells #[.int .i64 f, .int .u32 m, .slice (some ⟨g5, off5, none⟩) ls.length c5] 26 (0, 0))) := heap_setCell_mem _ _ _ _ _ _ _ HBX.out
      have HR9 : Hid ((wr.setCell ⟨P, 2, none⟩ (.slice (some ⟨g5, off5, none⟩) ls.length c5)).heap[R]? = some (.cells #[.int .i64 0, .int .u32 0, .slice none 0 0] 26 (0, 0))) := (Below.heap_setCell _ _ _ _ (show R ≠ P by omega)).trans HRX.out
      obtain ⟨g0, g1, g2⟩ := three_heads HP9.out
      obtain ⟨fr⟩ : wr.frozen? ⟨P, 2, none⟩ = false ∧ True := ⟨by have e := HBX.out; simp [World.frozen?, e], trivial⟩
      go_wp2_with (refine wpList_store_row rfl _ _ _ rfl R #[.int .i64 f, .int .u32 m, .slice (some ⟨g5, off5, none⟩) ls.length c5] rfl rfl 26 _ HR9.out (Tryz.sizePn _ _ _) rfl (one3 _ _ _ _ _) ?_)
      refine bodyPost_ret (v := planA f m (.slice (some ⟨g5, off5, none⟩) ls.length c5)) (results_cell_row rfl _ _ R _ _ _ _ rfl (setRow_heap _ _ _ _ _ _ HR9.out) Tryz.underlying26 rfl (Tryz.sizePn _ _ _)) rfl ?_
      refine ⟨g5, off5, c5, by rw [← HEQ.out, plsR_length], by rw [← HEQ.out, plsR_length, HEQ.out]; exact (pn_end (l := dropT l u) (F := fun b => (G b ∧ b < w.heap.size) ∨ w2.heap.size ≤ b) HPN.out (by omega) (by omega) HB.out HLT.out.1 (by omega) _).1.mono fun b _ hb => hb.imp (fun h => h.1) (fun h => by omega), (pn_end (l := dropT l u) (F := fun b => (G b ∧ b < w.heap.size) ∨ w2.heap.size ≤ b) HPN.out (by omega) (by omega) HB.out HLT.out.1 (by omega) _).2⟩
end Go.Proofs.YtpfpojehcjmfnaaGreat
