/-
  Rows of changes: each a unit and two places, with where their pieces lie.
  Conditions: none.
-/
import Derived.Test.YtincbilobmhgeaaM03
import Derived.Test.YtincbilobmhgeaaM06
import Derived.Test.YtincbilobmhgeaaM13
import Derived.Maps.AppendAt

/-
  Find of program and document.
  Conditions: the slice reads as places.
-/
set_option linter.unusedVariables false
namespace Go.Proofs.Ytincbilobmhgeaa
open Go.RowKit

/-- What Find answers: the place, or a zero one; its pieces in blocks of F. -/
def RetFind (F : Nat → Prop) (o : Option Pl) (w : World) (e : Ending) (w' : World) : Prop :=
  ∃ v, e = .returned (.tuple #[plA v (o.getD zeroPl), .bool o.isSome]) ∧ PcsIn F w' v (o.getD zeroPl).ps ∧ Below w.heap.size w w'
theorem PcsIn.setRow {F : Nat → Prop} {W : World} {v : Value} {ps : List Pc} (h : PcsIn F W v ps) {N : Nat} {cs : Array Value} (hn : ¬ F N ∨ W.heap.size ≤ N) : PcsIn F (W.setRow N cs) v ps :=
  h.keepF (by simp) fun b hb hF => setRow_other _ _ _ _ (by
    intro e
    subst e
    rcases hn with hn | hn
    · exact hn hF
    · omega)

set_option maxRecDepth 100000 in
set_option maxHeartbeats 4000000 in
theorem refFind_any (f : Int) (m : Nat) (v : Value) (l : List Pl) (u : Int) (w : World) (h : PlsAt w v l) (hl : l.length ≤ 1000) :
    Calls Try.prog 18 #[planA f m v, .int .i64 u] w (RetFind Any (findU l u) w) := by
  have HL := Lib.hid h
  obtain ⟨A, cA, rfl, hlc, hcm⟩ := h.form
  obtain ⟨n, hn⟩ : ∃ n, l.length = n := ⟨_, rfl⟩
  rw [hn] at HL hlc hl ⊢
  have HN := Lib.hid hn
  obtain ⟨w1, P, hw1, hP, hPl, hb1, hbox⟩ := box_any w #[.int .i64 f, .int .u32 m, .slice A n cA] 25
  obtain ⟨w3, R, hw3, hR, hRl, hb3, hrb⟩ := box_any w1 #[.int .i64 0, .int .i64 0, .int .i64 0, .slice none 0 0] 37
  have HB3 := Lib.hid (hb1.trans (hb3.mono hb1.size))
  have HPB := Lib.hid (keep_block hbox hb3)
  have HRB := Lib.hid hrb
  have HLT := Lib.hid (show w.heap.size ≤ P ∧ P < R ∧ R < w3.heap.size by have := hb1.size; omega)
  obtain ⟨p0, p1, p2⟩ := three_heads HPB.out
  clear h hn hb1 hb3 hbox hrb
  unfold planA
  go_enter Try.func18, Try.ntmps18
  go_wp2_with fail
  clear hw1 hP hw3 hR
  go_loopg [6] n (fun gg s6 wr => ∃ k : Nat, k ≤ n ∧ gg = n - k ∧ s6 = .int .i64 k ∧ Hid (findU (l.take k) u = none) ∧ w3 = wr)
  case atStart => exact ⟨0, Nat.zero_le _, by omega, rfl, rfl, rfl⟩
  case round =>
    obtain ⟨k, hk, hg, rfl, HF, rfl⟩ := hrel
    have HG := Lib.hid hg
    clear hg
    by_cases hlt : k < n
    · have hltz : (k : Int) < (n : Int) := by omega
      have hk0 : (0 : Int) ≤ (k : Int) := by omega
      obtain ⟨x, hx⟩ := exP_at (xs := l) (k := k) (by rw [HN.out]; exact hlt)
      obtain ⟨b, off, B, d, hA, hbl, _, hpl, hps⟩ := HL.out.at_ hx
      obtain ⟨c0, c1, c2, c3⟩ := hpl.keep (HB3.out.block b hbl)
      subst hA
      simp only at c0 c1 c2 c3
      have HX := Lib.hid hx
      have HPS := Lib.hid ((hps.mono (G := fun b => b < w.heap.size) fun b hb _ => hb).keep HB3.out)
      clear hx hps hpl
      by_cases hu : x.u = u
      · have hu1 : (x.u == u) = true := by simpa using hu
        have HE := Lib.hid (findU_hit HF HX.out hu)
        clear hu
        go_wp2_with (refine wpList_store_row rfl _ _ _ rfl R #[.int .i64 x.u, .int .i64 x.s, .int .i64 x.c, .slice B x.ps.length d] rfl rfl 37 _ HRB.out (Try.sizePl _ _ _ _) rfl (one4 _ _ _ _ _ _) ?_)
        refine bodyPost_ret (v := .tuple #[.agg #[.int .i64 x.u, .int .i64 x.s, .int .i64 x.c, .slice B x.ps.length d], .bool true]) (results_row_tmp rfl _ _ R _ _ _ _ rfl (setRow_heap _ _ _ _ _ _ HRB.out) Try.underlying37 rfl (Try.sizePl _ _ _ _) _ rfl) rfl ?_
        rw [HE.out]
        refine ⟨_, rfl, ?_, below_row16 HB3.out (by have := HLT.out; omega) _⟩
        exact (HPS.out.setRow (.inl (by have := HLT.out; omega))).any
      · have hu1 : (x.u == u) = false := by simpa using hu
        have HE := Lib.hid (findU_miss HF HX.out hu)
        clear hu
        go_wp2_with fail
        go_roundg (n - (k + 1))
        case measure => have := HG.out; omega
        case rel => exact ⟨k + 1, by omega, rfl, by go_num, HE.out, rfl⟩
    · have hltz : ¬ (k : Int) < (n : Int) := by omega
      have HE : Hid (findU l u = none) := by
        have h : findU (l.take k) u = none := HF
        rwa [List.take_of_length_le (by rw [HN.out]; omega)] at h
      go_wp2_with (refine wpList_store_row rfl _ _ _ rfl R #[.int .i64 0, .int .i64 0, .int .i64 0, .slice none 0 0] rfl rfl 37 _ HRB.out (Try.sizePl _ _ _ _) rfl (one4 _ _ _ _ _ _) ?_)
      refine bodyPost_ret (v := .tuple #[.agg #[.int .i64 0, .int .i64 0, .int .i64 0, .slice none 0 0], .bool false]) (results_row_tmp rfl _ _ R _ _ _ _ rfl (setRow_heap _ _ _ _ _ _ HRB.out) Try.underlying37 rfl (Try.sizePl _ _ _ _) _ rfl) rfl ?_
      rw [HE.out]
      exact ⟨_, rfl, PcsIn.nil _ _, below_row16 HB3.out (by have := HLT.out; omega) _⟩
end Go.Proofs.Ytincbilobmhgeaa

/-
  The page's plan.
  Conditions: none.
-/
set_option linter.unusedVariables false
namespace Go.Proofs.Ytincbilobmhgeaa
open Go.RowKit

def exPs : List Pc := [⟨0, 1⟩, ⟨1, 6⟩]
def exL : List Pl := [⟨1, 3, 0, []⟩, ⟨2, 3, 0, exPs⟩]
theorem exL_light : LightL exL := by
  refine ⟨by decide, fun x hx => ?_⟩
  simp only [exL, List.mem_cons, List.not_mem_nil, or_false] at hx
  rcases hx with rfl | rfl
  · refine ⟨⟨⟨by decide, by decide⟩, ⟨by decide, by decide⟩, ⟨by decide, by decide⟩, fun y hy => by cases hy⟩, by decide⟩
  · refine ⟨⟨⟨by decide, by decide⟩, ⟨by decide, by decide⟩, ⟨by decide, by decide⟩, fun y hy => ?_⟩, by decide⟩
    simp only [exPs, List.mem_cons, List.not_mem_nil, or_false] at hy
    rcases hy with rfl | rfl <;> exact ⟨⟨by decide, by decide⟩, by decide⟩
theorem exL_shares : Shares exL := by
  intro x hx
  simp only [exL, List.mem_cons, List.not_mem_nil, or_false] at hx
  rcases hx with rfl | rfl <;> exact ⟨by decide, by decide⟩
theorem exL_right : Right 4 3 exL where
  f2 := by decide
  f64 := by decide
  m0 := by decide
  m16 := by decide
  place := by
    intro x hx
    simp only [exL, List.mem_cons, List.not_mem_nil, or_false] at hx
    rcases hx with rfl | rfl
    · exact ⟨by decide +kernel, by decide, by decide, fun _ => by decide +kernel, fun h => absurd rfl h⟩
    · refine ⟨by decide +kernel, by decide, by decide, fun h => (by cases h), fun _ => ⟨rfl, by decide, ⟨by decide +kernel, by decide, by decide, by decide +kernel, by decide, by decide, trivial⟩, ?_, by decide +kernel⟩⟩
      show ∀ t, t < 64 → nAny exPs t ≤ 1 ∧ (0 < nAny exPs t → (t : Int) < 4)
      decide +kernel
  asc := by
    intro i x y hx hy
    have h : i + 1 < exL.length := (List.getElem?_eq_some_iff.1 hy).1
    have h0 : i = 0 := by simp [exL] at h; omega
    subst h0
    simp [exL] at hx hy
    subst hx
    subst hy
    decide
  apart := by decide +kernel
  few := by decide +kernel
  load := by decide +kernel
theorem exL_room0 : roomN 4 3 exL 0 = 0 := by decide +kernel
theorem exL_room1 : roomN 4 3 exL 1 = 2 := by decide +kernel
theorem exL_free : freeT 4 3 exL 16 = 2 := by decide +kernel
theorem exL_splits : splitsN exL = 1 := by decide +kernel
theorem exL_win : winN (pcsOf exL) 1 = 6 := by decide +kernel
theorem exL_has : hasC 3 1 = true := by decide +kernel
theorem no_zero : ¬ Right 0 0 [] := fun h => by have := h.f2; omega

/-- What a call answers: this plan, its places in blocks of F. -/
def RetPn (F : Nat → Prop) (f : Int) (m : Nat) (l : List Pl) (w : World) (e : Ending) (w' : World) : Prop := ∃ v, e = .returned (planA f m v) ∧ PlsIn F w' v l ∧ Below w.heap.size w w'
theorem below_row {B g : Nat} {a w : World} (h : Below B a w) (hg : B ≤ g) (cs : Array Value) : Below B a (w.setRow g cs) := below_row16 h hg cs
theorem PlsIn.setRow {F : Nat → Prop} {W : World} {v : Value} {l : List Pl} (h : PlsIn F W v l) {N : Nat} {cs : Array Value} (hn : ¬ F N ∨ W.heap.size ≤ N) : PlsIn F (W.setRow N cs) v l :=
  h.keepF (by simp) fun b hb hF => setRow_other _ _ _ _ (by
    intro e
    subst e
    rcases hn with hn | hn
    · exact hn hF
    · omega)
theorem one3 (f : Int) (m : Nat) (A : Option Addr) (n d : Nat) : (#[.int .i64 f, .int .u32 m, .slice A n d] : Array Value).all (·.oneCell') = true := by simp [Value.oneCell']

/-- The page's places, as its cells lie. -/
theorem ex_pls {W : World} {Q R : Nat} (hQ : W.heap[Q]? = some (.cells #[.int .i64 0, .int .u64 1, .int .i64 1, .int .u64 6] 56 (0, 0)))
    (hR : W.heap[R]? = some (.cells #[.int .i64 1, .int .i64 3, .int .i64 0, .slice none 0 0, .int .i64 2, .int .i64 3, .int .i64 0, .slice (some ⟨Q, 0, none⟩) 2 2] 37 (0, 0))) (F : Nat → Prop) (hFQ : F Q) (hFR : F R) :
    PlsIn F W (.slice (some ⟨R, 0, none⟩) 2 2) exL := by
  have lQ := heap_lt hQ
  have lR := heap_lt hR
  have hps : PcsIn F W (.slice (some ⟨Q, 0, none⟩) 2 2) exPs := by
    refine ⟨_, 2, rfl, by decide, by decide, fun _ => ⟨Q, 0, rfl, lQ, hFQ, fun j y hy => ?_⟩⟩
    have h : j < exPs.length := (List.getElem?_eq_some_iff.1 hy).1
    have hj : j = 0 ∨ j = 1 := by simp [exPs] at h; omega
    rcases hj with rfl | rfl
    · cases hy
      exact ⟨by simp [World.cell?, hQ], by simp [World.cell?, hQ]⟩
    · cases hy
      exact ⟨by simp [World.cell?, hQ], by simp [World.cell?, hQ]⟩
  refine ⟨[(.slice none 0 0, ⟨1, 3, 0, []⟩), (.slice (some ⟨Q, 0, none⟩) 2 2, ⟨2, 3, 0, exPs⟩)], rfl, _, 2, rfl, Nat.le_refl 2, by decide, fun _ => ⟨R, 0, rfl, lR, hFR, fun j p hp => ?_⟩, fun p hp => ?_⟩
  · have h := (List.getElem?_eq_some_iff.1 hp).1
    have hj : j = 0 ∨ j = 1 := by simp at h; omega
    rcases hj with rfl | rfl
    · cases hp
      exact ⟨by simp [World.cell?, hR], by simp [World.cell?, hR], by simp [World.cell?, hR], by simp [World.cell?, hR]⟩
    · cases hp
      exact ⟨by simp [World.cell?, hR], by simp [World.cell?, hR], by simp [World.cell?, hR], by simp [World.cell?, hR]⟩
  · simp only [List.mem_cons, List.not_mem_nil, or_false] at hp
    rcases hp with rfl | rfl
    · exact PcsIn.nil _ _
    · exact hps
end Go.Proofs.Ytincbilobmhgeaa

/-
  Drop of program and document.
  Conditions: the slice reads as places.
-/
set_option linter.unusedVariables false
namespace Go.Proofs.Ytincbilobmhgeaa
open Go.RowKit

/-- A plan without a unit's place. -/
def dropT (l : List Pl) (u : Int) : List Pl := l.filter fun x => !decide (x.u = u)
theorem drop_take {l : List Pl} {k : Nat} {x : Pl} {u : Int} (hx : l[k]? = some x) : dropT (l.take (k + 1)) u = dropT (l.take k) u ++ (if x.u = u then [] else [x]) := by
  unfold dropT
  rw [List.take_add_one, hx, Option.toList_some, List.filter_append]
  congr 1
  by_cases h : x.u = u
  · simp [h]
  · simp [h]
theorem drop_le (l : List Pl) (u : Int) : (dropT l u).length ≤ l.length := List.length_filter_le _ _
theorem plsR_length (ls : List Rp) : (plsR ls).length = ls.length := by unfold plsR; simp
theorem plsR_snoc (ls : List Rp) (r : Rp) : plsR (ls ++ [r]) = plsR ls ++ [r.2] := by simp [plsR]

/-- A row of places of one's own, their pieces in blocks of F that are not the row's. -/
structure RowPl (W : World) (base : Nat) (F : Nat → Prop) (v : Value) (ls : List Rp) : Prop where
  own : W.ownsRow base 37 4 v ls.length (rowP ls)
  pcs : AllPcs (fun b => F b ∧ v.ownBlock ≠ some b) W ls
theorem RowPl.nil (W : World) (base : Nat) (F : Nat → Prop) : RowPl W base F (.slice none 0 0) [] := ⟨World.ownsRow_nil _ _ _ _, AllPcs.nil _ _⟩
theorem RowPl.keep {W W' : World} {base : Nat} {F : Nat → Prop} {v : Value} {ls : List Rp} (h : RowPl W base F v ls) (hb : Below W.heap.size W W') : RowPl W' base F v ls := ⟨own_below5 h.own hb, h.pcs.keep hb⟩
theorem RowPl.snoc {W W' : World} {base : Nat} {F : Nat → Prop} {v v' : Value} {ls : List Rp} {r : Rp} (h : RowPl W base F v ls) (hr : PcsIn (fun b => F b ∧ v.ownBlock ≠ some b) W (rpV r) r.2.ps)
    (ho : W'.ownsRow base 37 4 v' (ls.length + 1) (rowP ls ++ rpCells r)) (hg : W.grownBy W' v.ownBlock) (hat : v'.ownBlock = v.ownBlock ∨ v'.ownBlock = some W.heap.size) : RowPl W' base F v' (ls ++ [r]) := by
  have hall := h.pcs.snoc hr
  refine ⟨by rw [rowP_snoc, List.length_append]; exact ho, (hall.mono (G := fun b => b < W.heap.size ∧ F b ∧ v.ownBlock ≠ some b) fun b hb hF => ⟨hb, hF⟩).keepF hg.size (fun b hb hF => hg.block b hb fun e => hF.2.2 e.symm) |>.mono fun b _ hF => ⟨hF.2.1, fun e => ?_⟩⟩
  rcases hat with hat | hat
  · exact hF.2.2 (hat ▸ e)
  · rw [hat] at e
    have := Option.some.inj e
    omega
/-- From another base, where the blocks from there on are as they were. -/
theorem RowPl.at_base {W W' : World} {base base' : Nat} {v : Value} {ls : List Rp} (h : RowPl W base (fun b => base ≤ b) v ls) (hb : base' ≤ base) (hs : W.heap.size ≤ W'.heap.size) (hk : ∀ b, base ≤ b → W'.heap[b]? = W.heap[b]?) : RowPl W' base' (fun b => base' ≤ b) v ls :=
  ⟨own_mono5 (own_keep h.own fun k hv => hk k (own_base5 h.own k hv)) hb, (h.pcs.keepF hs fun b _ hF => hk b hF.1).mono fun b _ hF => ⟨by have := hF.1; omega, hF.2⟩⟩
/-- What a call answers: this plan, its places in a row of the call's own. -/
def RetRow (f : Int) (m : Nat) (l : List Pl) (w : World) (e : Ending) (w' : World) : Prop := ∃ v ls, e = .returned (planA f m v) ∧ plsR ls = l ∧ RowPl w' w.heap.size (fun b => w.heap.size ≤ b) v ls ∧ Below w.heap.size w w'
theorem news_rp (W : World) (t : Nat) (r : Rp) : ∀ j u, (rpCells r)[j]? = some u → (W.alloc (.cells #[.int .i64 r.2.u, .int .i64 r.2.s, .int .i64 r.2.c, rpV r] t)).cell? ((⟨W.heap.size, 0, none⟩ : Addr).add j) = some u := World.news_of_block (heap_alloc_new W _)
/-- The end of a call that puts places into its plan and answers it. -/
theorem pn_end {w W : World} {P R : Nat} {F : Nat → Prop} {A : Option Addr} {n d : Nat} {l : List Pl} (hpl : PlsIn F W (.slice A n d) l) (hFP : ¬ F P) (hFR : ¬ F R) (hb : Below w.heap.size w W) (hP : w.heap.size ≤ P) (hR : w.heap.size ≤ R) (cs : Array Value) :
    PlsIn F ((W.setCell ⟨P, 2, none⟩ (.slice A n d)).setRow R cs) (.slice A n d) l ∧ Below w.heap.size w ((W.setCell ⟨P, 2, none⟩ (.slice A n d)).setRow R cs) :=
  ⟨PlsIn.setRow (hpl.keepF (by simp [World.setCell]) fun b hb hF => Below.heap_setCell _ _ _ _ (by intro e; subst e; exact hFP hF)) (.inl hFR), below_row (hb.setCell (p := ⟨P, 2, none⟩) hP _) hR _⟩

/-- What a call answers: this plan, its places' row there even if it is empty. -/
def RetPs (F : Nat → Prop) (f : Int) (m : Nat) (l : List Pl) (w : World) (e : Ending) (w' : World) : Prop := ∃ b o c, e = .returned (planA f m (.slice (some ⟨b, o, none⟩) l.length c)) ∧ PlsIn F w' (.slice (some ⟨b, o, none⟩) l.length c) l ∧ Below w.heap.size w w'
theorem own_some {w : World} {base e size n : Nat} {v : Value} {xs : List Value} (h : w.ownsRow base e size v n xs) (hn : v ≠ .slice none 0 0) : ∃ g o c, v = .slice (some ⟨g, o, none⟩) n c := by
  rcases h.2 with ⟨rfl, h0⟩ | ⟨g, cap, cur, rfl, _⟩
  · exact absurd rfl hn
  · exact ⟨_, _, _, rfl⟩
end Go.Proofs.Ytincbilobmhgeaa

/-
  Put of the document.
  Conditions: the slices read as places, as pieces; where the place belongs is told.
-/
set_option linter.unusedVariables false
set_option linter.unusedSimpArgs false
namespace Go.Proofs.Ytincbilobmhgeaa
open Go.RowKit

/-- Where a unit's place belongs. -/
structure PutAt (d : List Pl) (u : Int) (k : Nat) : Prop where
  le : k ≤ d.length
  less : ∀ (j : Nat) (y : Pl), d[j]? = some y → (y.u < u ↔ j < k)
def putPl (d : List Pl) (x : Pl) (k : Nat) : List Pl := d.take k ++ [x] ++ d.drop k
theorem pcs_apart {W : World} {base e n : Nat} {F : Nat → Prop} {v : Value} {xs : List Value} (ho : W.ownsRow base e 4 v n xs) (hF : ∀ b, F b → b < base) {qs : List Rp} (h : AllPcs F W qs) : AllPcs (fun b => F b ∧ v.ownBlock ≠ some b) W qs := h.mono fun b _ hf => ⟨hf, fun e => by
  have h1 := own_base5 ho b e
  have h2 := hF b hf
  omega⟩
theorem pc_apart {W : World} {base e n : Nat} {F : Nat → Prop} {v u : Value} {xs : List Value} {ps : List Pc} (ho : W.ownsRow base e 4 v n xs) (hF : ∀ b, F b → b < base) (h : PcsIn F W u ps) : PcsIn (fun b => F b ∧ v.ownBlock ≠ some b) W u ps := h.mono fun b _ hf => ⟨hf, fun e => by
  have h1 := own_base5 ho b e
  have h2 := hF b hf
  omega⟩
theorem RowPl.more {W W' : World} {base : Nat} {F : Nat → Prop} {v v' : Value} {ls qs : List Rp} (h : RowPl W base F v ls) (hr : AllPcs (fun b => F b ∧ v.ownBlock ≠ some b) W qs)
    (ho : W'.ownsRow base 37 4 v' (ls.length + qs.length) (rowP ls ++ rowP qs)) (hg : W.grownBy W' v.ownBlock) (hat : v'.ownBlock = v.ownBlock ∨ v'.ownBlock = some W.heap.size) : RowPl W' base F v' (ls ++ qs) := by
  have hall : AllPcs (fun b => F b ∧ v.ownBlock ≠ some b) W (ls ++ qs) := fun r hr' => (List.mem_append.1 hr').elim (h.pcs r) (hr r)
  refine ⟨by rw [rowP_append, List.length_append]; exact ho, (hall.mono (G := fun b => b < W.heap.size ∧ F b ∧ v.ownBlock ≠ some b) fun b hb hF => ⟨hb, hF⟩).keepF hg.size (fun b hb hF => hg.block b hb fun e => hF.2.2 e.symm) |>.mono fun b _ hF => ⟨hF.2.1, fun e => ?_⟩⟩
  rcases hat with hat | hat
  · exact hF.2.2 (hat ▸ e)
  · rw [hat] at e
    have := Option.some.inj e
    omega
theorem plsR_append (a b : List Rp) : plsR (a ++ b) = plsR a ++ plsR b := by simp [plsR]
theorem plsR_take (a : List Rp) (k : Nat) : plsR (a.take k) = (plsR a).take k := by simp [plsR]
theorem plsR_drop (a : List Rp) (k : Nat) : plsR (a.drop k) = (plsR a).drop k := by simp [plsR]
theorem rowP_part {W : World} {b : Nat} {off : Nat} {ls : List Rp} (h : ∀ (i : Nat) (u : Value), (rowP ls)[i]? = some u → W.cell? ⟨b, off + i, none⟩ = some u) (k : Nat) :
    (∀ j u, (rowP (ls.take k))[j]? = some u → W.cell? ((⟨b, off, none⟩ : Addr).add j) = some u) ∧ ∀ j u, (rowP (ls.drop k))[j]? = some u → W.cell? ((⟨b, off + k * 4, none⟩ : Addr).add j) = some u := by
  constructor
  · intro j u hj
    rw [Addr.add_lit]
    rw [← rowP_take, List.getElem?_take] at hj
    split at hj
    · exact h _ _ hj
    · cases hj
  · intro j u hj
    rw [Addr.add_lit]
    rw [← rowP_drop, List.getElem?_drop] at hj
    rw [Nat.add_assoc]
    exact h _ _ hj
end Go.Proofs.Ytincbilobmhgeaa

/-
  Where a plan's place belongs; append of pieces onto an empty row.
  Conditions: the plan is right.
-/
set_option linter.unusedVariables false
set_option linter.unusedSimpArgs false
namespace Go.Proofs.Ytincbilobmhgeaa
open Go.RowKit

/-- A right plan without one of its places. -/
def lessT (l : List Pl) (i : Nat) : List Pl := l.take i ++ l.drop (i + 1)
theorem less_get {l : List Pl} {i : Nat} (hi : i < l.length) (j : Nat) : (lessT l i)[j]? = if j < i then l[j]? else l[j + 1]? := by
  unfold lessT
  by_cases h : j < i
  · rw [if_pos h, List.getElem?_append_left (by rw [List.length_take]; omega), List.getElem?_take_of_lt h]
  · rw [if_neg h, List.getElem?_append_right (by rw [List.length_take]; omega), List.length_take, Nat.min_eq_left (by omega), List.getElem?_drop]
    congr 1
    omega
theorem drop_less {f : Int} {m : Nat} {l : List Pl} {i : Nat} {z : Pl} (hr : Right f m l) (hi : l[i]? = some z) : dropT l z.u = lessT l i := by
  obtain ⟨hlt, _⟩ := List.getElem?_eq_some_iff.1 hi
  have e : l = l.take i ++ z :: l.drop (i + 1) := by
    obtain ⟨hk, hx'⟩ := List.getElem?_eq_some_iff.1 hi
    rw [← hx', ← List.drop_eq_getElem_cons hk, List.take_append_drop]
  have h1 : (l.take i).filter (fun x => !decide (x.u = z.u)) = l.take i := List.filter_eq_self.2 fun x hx => by
    obtain ⟨j, hj⟩ := List.mem_iff_getElem?.1 hx
    have hji : j < i := by
      have := (List.getElem?_eq_some_iff.1 hj).1
      rw [List.length_take] at this
      omega
    rw [List.getElem?_take_of_lt hji] at hj
    have := hr.rise hji hj hi
    simp
    omega
  have h2 : (l.drop (i + 1)).filter (fun x => !decide (x.u = z.u)) = l.drop (i + 1) := List.filter_eq_self.2 fun x hx => by
    obtain ⟨j, hj⟩ := List.mem_iff_getElem?.1 hx
    rw [List.getElem?_drop] at hj
    have := hr.rise (show i < i + 1 + j by omega) hi hj
    simp
    omega
  unfold dropT lessT
  conv => lhs; rw [e]
  rw [List.filter_append, List.filter_cons, h1, h2]
  simp
theorem less_put {f : Int} {m : Nat} {l : List Pl} {i : Nat} {z : Pl} (hr : Right f m l) (hi : l[i]? = some z) : PutAt (lessT l i) z.u i := by
  have hlt := (List.getElem?_eq_some_iff.1 hi).1
  refine ⟨by unfold lessT; rw [List.length_append, List.length_take]; omega, fun j y hy => ?_⟩
  rw [less_get hlt] at hy
  by_cases h : j < i
  · rw [if_pos h] at hy
    have := hr.rise h hy hi
    exact ⟨fun _ => h, fun _ => this⟩
  · rw [if_neg h] at hy
    have := hr.rise (show i < j + 1 by omega) hi hy
    exact ⟨fun e => by omega, fun e => absurd e h⟩
theorem less_drop {d : List Pl} {u : Int} {i : Nat} (h : PutAt d u i) (hn : ∀ x ∈ d, x.u ≠ u) : dropT d u = d := List.filter_eq_self.2 fun x hx => by simp [hn x hx]
theorem less_ne {f : Int} {m : Nat} {l : List Pl} {i : Nat} {z : Pl} (hr : Right f m l) (hi : l[i]? = some z) : ∀ x ∈ lessT l i, x.u ≠ z.u := fun x hx => by
  rw [← drop_less hr hi] at hx
  simpa using (List.mem_filter.1 hx).2
theorem less_back {l : List Pl} {i : Nat} {z : Pl} (hi : l[i]? = some z) : putPl (lessT l i) z i = l := by
  have hlt := (List.getElem?_eq_some_iff.1 hi).1
  have e : l = l.take i ++ z :: l.drop (i + 1) := by
    obtain ⟨hk, hx'⟩ := List.getElem?_eq_some_iff.1 hi
    rw [← hx', ← List.drop_eq_getElem_cons hk, List.take_append_drop]
  have hti : (l.take i).length = i := by rw [List.length_take]; omega
  unfold putPl lessT
  rw [List.take_append_of_le_length (by omega), List.take_of_length_le (by omega), List.drop_append_of_le_length (by omega), List.drop_of_length_le (by omega)]
  conv => rhs; rw [e]
  simp

/-- append in a region that draws, by its run. -/
theorem step_append_run16 {ops : Array Oper} {o : Oper} {a : Act} {w : World} {K : Act → World → Prop} {Q : Exit → Act → World → Prop} {E : Prop}
    (hg : o.guard = none) (d x : Operand) (dT sT : TypeId) (hop : o.op = Op.call { callee := Callee.builtin Builtin.append, args := #[d, x], argTypes := #[dT, sT] })
    (v u : Value) (hd : a.eval d = v) (hx : a.eval x = u) {v' : Value} {w' : World} (hr : (Builtin.append_ #[dT, sT] o.type #[v, u]).run Try.prog w = .ok v' w') (hK : K (a.put o.dst v') w') :
    if Region.wanted o (yielded ops a.tmps) = true then Oper.wp Try.prog o a w K Q else E := by
  have hw : Region.wanted o (yielded ops a.tmps) = true := by simp [Region.wanted, hg]
  rw [if_pos hw]
  unfold Oper.wp
  simp [execOp, hop, resolve, invoke, builtin, hd, hx, hr, Result.andThen]
  exact hK
theorem step_store_row16 {ops : Array Oper} {o : Oper} {a : Act} {w : World} {K : Act → World → Prop} {Q : Exit → Act → World → Prop} {E : Prop}
    (hg : o.guard = none) (ty : TypeId) (x y : Operand) (ho : o.op = .store ty x y)
    (g : Nat) (cells : Array Value) (hx : a.eval x = .pointer (some ⟨g, 0, none⟩)) (hy : a.eval y = .agg cells)
    (t : TypeId) (old : Array Value) (hgg : w.heap[g]? = some (.cells old t (0, 0))) (hi : (Try.prog.info? ty).map (·.size) = some cells.size)
    (hold : old.size = cells.size) (h1 : cells.all (·.oneCell') = true) (hK : K (a.put o.dst undef) (w.setRow g cells)) :
    if Region.wanted o (yielded ops a.tmps) = true then Oper.wp Try.prog o a w K Q else E := by
  have hw : Region.wanted o (yielded ops a.tmps) = true := by simp [Region.wanted, hg]
  rw [if_pos hw]
  exact wp_store_row ty x y ho g cells hx hy t old hgg hi hold h1 hK
theorem pcs_of_ownB {W : World} {base : Nat} {v : Value} {ps : List Pc} (h : W.ownsRow base 56 2 v ps.length (pcsCells ps)) : PcsIn (fun b => v.ownBlock = some b) W v ps := by
  obtain ⟨A, c, rfl, h1, h2, h3⟩ := pcs_of_own h
  refine ⟨A, c, rfl, h1, h2, fun h0 => ?_⟩
  obtain ⟨b, off, rfl, hb, _, hc⟩ := h3 h0
  exact ⟨b, off, rfl, hb, rfl, hc⟩
/-- append of pieces onto an empty row. -/
theorem app_pcs (W : World) (E : Nat) (hE : W.heap[E]? = some (.cells #[] 56 (0, 0))) (v : Value) (ps : List Pc) (h : PcsAt W v ps) (hl : ps.length ≤ 1000) :
    ∃ v' w', (Builtin.append_ #[35, 35] 35 #[.slice (some ⟨E, 0, none⟩) 0 0, v]).run Try.prog W = .ok v' w' ∧ PcsIn (fun b => b = E ∨ W.heap.size ≤ b) w' v' ps ∧ Below E W w' ∧ ∀ b, b < W.heap.size → b ≠ E → w'.heap[b]? = W.heap[b]? := by
  obtain ⟨i, hi, hz0, hz1, hz2⟩ := info_parts Try.infoPc
  obtain ⟨A, c, rfl, h1, h2, h3⟩ := h
  have hEl := heap_lt hE
  rcases A with _ | a
  · have : ps = [] := by
      rcases Nat.eq_zero_or_pos ps.length with h | h
      · exact List.eq_nil_of_length_eq_zero h
      · obtain ⟨b, off, e, _⟩ := h3 h; cases e
    subst this
    refine ⟨.slice (some ⟨E, 0, none⟩) 0 0, W, ?_, ⟨_, 0, rfl, Nat.le_refl _, by decide, fun h => absurd h (by decide)⟩, Below.refl _ _, fun _ _ _ => rfl⟩
    simp [Builtin.append_, run_underlying Try.underlying35, Builtin.lenOf, sizeOf, typeInfo, hi, hz1, Builtin.firstCells, storeCells, Result.andThen]
  · have hown : W.ownsRow E 56 2 (.slice (some ⟨E, 0, none⟩) 0 0) 0 [] := ⟨rfl, .inr ⟨E, 0, #[], rfl, Nat.le_refl _, hE, Nat.le_refl _, Nat.zero_le _, rfl, rfl⟩⟩
    obtain ⟨v', w', hr, ho, hg, _, hat⟩ := run_append_own_at (P := Try.prog) W E 35 35 56 i (.agg #[.int .i64 0, .int .u64 0]) 2 16 Try.underlying35 hi hz0 hz1 hz2 rfl (by decide) _ 0 [] hown a ps.length c (pcsCells ps) (pcsCells_length ps) (fun j u hj => by
      have hj' : j < ps.length * 2 := by rw [← pcsCells_length]; exact (List.getElem?_eq_some_iff.1 hj).1
      obtain ⟨b, off, e, hlt, _, hc⟩ := h3 (by omega)
      cases e
      rw [Addr.add_lit]
      exact pcsCells_of ps hc j u hj) (pcsCells_one ps) (by unfold maxLen; omega) (by omega) (by omega)
    rw [Nat.zero_add, List.nil_append] at ho
    refine ⟨v', w', hr, (pcs_of_ownB ho).mono fun b _ hb => ?_, below_grown5 hg (by omega) fun k hk => (by cases hk; exact Nat.le_refl _), fun b hb hne => hg.block b hb fun e => hne (by cases e; rfl)⟩
    rcases hat with hat | hat
    · rw [hat] at hb
      exact .inl (Option.some.inj hb).symm
    · rw [hat] at hb
      exact .inr (Nat.le_of_eq (Option.some.inj hb))
end Go.Proofs.Ytincbilobmhgeaa

/-
  Rows of changes: each a unit and two places, with where their pieces lie.
  Conditions: none.
-/
set_option linter.unusedVariables false
set_option linter.unusedSimpArgs false
namespace Go.Proofs.Ytincbilobmhgeaa
open Go.RowKit

theorem Try.infoCh : (Try.prog.info? 41).map (fun i => (i.zero, i.size, i.bytes)) = some (some (.agg #[.int .i64 0, .int .i64 0, .int .i64 0, .int .i64 0, .slice none 0 0, .int .i64 0, .int .i64 0, .int .i64 0, .slice none 0 0]), 9, 104) := by kernel_rfl
/-- A change: the unit, its place in one plan, and in the other. -/
abbrev Ch := Int × Pl × Pl
abbrev Rc := Int × Rp × Rp
def rcCells (r : Rc) : List Value := [.int .i64 r.1, .int .i64 r.2.1.2.u, .int .i64 r.2.1.2.s, .int .i64 r.2.1.2.c, rpV r.2.1, .int .i64 r.2.2.2.u, .int .i64 r.2.2.2.s, .int .i64 r.2.2.2.c, rpV r.2.2]
def rowC (l : List Rc) : List Value := l.flatMap rcCells
def chsR (l : List Rc) : List Ch := l.map fun r => (r.1, r.2.1.2, r.2.2.2)
theorem rowC_cons (m : Rc) (l : List Rc) : rowC (m :: l) = rcCells m ++ rowC l := by simp [rowC]
theorem rowC_snoc (l : List Rc) (m : Rc) : rowC (l ++ [m]) = rowC l ++ rcCells m := by simp [rowC]
theorem rc_length (m : Rc) : (rcCells m).length = 9 := rfl
theorem rowC_length : ∀ (l : List Rc), (rowC l).length = l.length * 9
  | [] => rfl
  | m :: l => by rw [rowC_cons, List.length_append, rowC_length l, rc_length, List.length_cons]; omega
theorem rowC_get : ∀ (l : List Rc) (j : Nat) (m : Rc), l[j]? = some m → ∀ k u, (rcCells m)[k]? = some u → (rowC l)[j * 9 + k]? = some u
  | [], j, m, h => by simp at h
  | x :: l, 0, m, h => by
    simp at h
    subst h
    intro k u hk
    have hlt : k < 9 := (List.getElem?_eq_some_iff.1 hk).1
    rw [rowC_cons, List.getElem?_append_left (by rw [rc_length]; omega), Nat.zero_mul, Nat.zero_add]
    exact hk
  | x :: l, j + 1, m, h => by
    intro k u hk
    have ih := rowC_get l j m (by simpa using h) k u hk
    rw [rowC_cons, List.getElem?_append_right (by rw [rc_length]; omega), rc_length, show (j + 1) * 9 + k - 9 = j * 9 + k by omega]
    exact ih
theorem rc_one (r : Rc) : ∀ u ∈ rcCells r, u.oneCell' = true := by
  intro u hu
  simp [rcCells] at hu
  rcases hu with rfl | rfl | rfl | rfl | rfl | rfl | rfl | rfl | rfl <;> rfl
theorem chsR_length (l : List Rc) : (chsR l).length = l.length := by unfold chsR; simp
theorem chsR_snoc (l : List Rc) (r : Rc) : chsR (l ++ [r]) = chsR l ++ [(r.1, r.2.1.2, r.2.2.2)] := by simp [chsR]
/-- All pieces of both places lie in blocks of F. -/
def AllCh (F : Nat → Prop) (W : World) (ls : List Rc) : Prop := ∀ r ∈ ls, PcsIn F W (rpV r.2.1) r.2.1.2.ps ∧ PcsIn F W (rpV r.2.2) r.2.2.2.ps
theorem AllCh.keepF {F : Nat → Prop} {W W' : World} {ls : List Rc} (h : AllCh F W ls) (hs : W.heap.size ≤ W'.heap.size) (hk : ∀ b, b < W.heap.size → F b → W'.heap[b]? = W.heap[b]?) : AllCh F W' ls := fun r hr => ⟨(h r hr).1.keepF hs hk, (h r hr).2.keepF hs hk⟩
theorem AllCh.keep {F : Nat → Prop} {W W' : World} {ls : List Rc} (h : AllCh F W ls) (hb : Below W.heap.size W W') : AllCh F W' ls := fun r hr => ⟨(h r hr).1.keep hb, (h r hr).2.keep hb⟩
theorem AllCh.mono {F G : Nat → Prop} {W : World} {ls : List Rc} (h : AllCh F W ls) (hg : ∀ b, b < W.heap.size → F b → G b) : AllCh G W ls := fun r hr => ⟨(h r hr).1.mono hg, (h r hr).2.mono hg⟩
theorem AllCh.nil (F : Nat → Prop) (W : World) : AllCh F W [] := fun r hr => by cases hr
theorem AllCh.snoc {F : Nat → Prop} {W : World} {ls : List Rc} (h : AllCh F W ls) {r : Rc} (hr : PcsIn F W (rpV r.2.1) r.2.1.2.ps ∧ PcsIn F W (rpV r.2.2) r.2.2.2.ps) : AllCh F W (ls ++ [r]) := fun x hx => by
  rcases List.mem_append.1 hx with hx | hx
  · exact h x hx
  · rw [List.mem_singleton.1 hx]; exact hr
/-- A row of changes of one's own, their pieces in blocks that are not the row's. -/
structure RowCh (W : World) (base : Nat) (v : Value) (ls : List Rc) : Prop where
  own : W.ownsRow base 41 9 v ls.length (rowC ls)
  pcs : AllCh (fun b => v.ownBlock ≠ some b) W ls
theorem RowCh.nil (W : World) (base : Nat) : RowCh W base (.slice none 0 0) [] := ⟨World.ownsRow_nil _ _ _ _, AllCh.nil _ _⟩
theorem RowCh.keep {W W' : World} {base : Nat} {v : Value} {ls : List Rc} (h : RowCh W base v ls) (hb : Below W.heap.size W W') : RowCh W' base v ls := ⟨own_below5 h.own hb, h.pcs.keep hb⟩
theorem RowCh.snoc {W W' : World} {base : Nat} {v v' : Value} {ls : List Rc} {r : Rc} (h : RowCh W base v ls) (hr : PcsIn (fun b => v.ownBlock ≠ some b) W (rpV r.2.1) r.2.1.2.ps ∧ PcsIn (fun b => v.ownBlock ≠ some b) W (rpV r.2.2) r.2.2.2.ps)
    (ho : W'.ownsRow base 41 9 v' (ls.length + 1) (rowC ls ++ rcCells r)) (hg : W.grownBy W' v.ownBlock) (hat : v'.ownBlock = v.ownBlock ∨ v'.ownBlock = some W.heap.size) : RowCh W' base v' (ls ++ [r]) := by
  have hall := h.pcs.snoc hr
  refine ⟨by rw [rowC_snoc, List.length_append]; exact ho, (hall.mono (G := fun b => b < W.heap.size ∧ v.ownBlock ≠ some b) fun b hb hF => ⟨hb, hF⟩).keepF hg.size (fun b hb hF => hg.block b hb fun e => hF.2 e.symm) |>.mono fun b _ hF e => ?_⟩
  rcases hat with hat | hat
  · exact hF.2 (hat ▸ e)
  · rw [hat] at e
    have := Option.some.inj e
    omega
/-- append of one change to a row of the call's own. -/
theorem app_ch (W : World) (base : Nat) (v : Value) (ls : List Rc) (r : Rc) (N : Nat) (hrow : RowCh W base v ls) (hN : W.heap[N]? = some (.cells #[.int .i64 r.1, .int .i64 r.2.1.2.u, .int .i64 r.2.1.2.s, .int .i64 r.2.1.2.c, rpV r.2.1, .int .i64 r.2.2.2.u, .int .i64 r.2.2.2.s, .int .i64 r.2.2.2.c, rpV r.2.2] 41 (0, 0)))
    (hr : PcsIn (fun b => v.ownBlock ≠ some b) W (rpV r.2.1) r.2.1.2.ps ∧ PcsIn (fun b => v.ownBlock ≠ some b) W (rpV r.2.2) r.2.2.2.ps) (hl : ls.length ≤ 2000) (hb : base ≤ W.heap.size) :
    ∃ v' w', (Builtin.append_ #[32, 32] 32 #[v, .slice (some ⟨N, 0, none⟩) 1 1]).run Try.prog W = .ok v' w' ∧ RowCh w' base v' (ls ++ [r]) ∧ Below base W w' ∧ (∀ b, b < W.heap.size → v.ownBlock ≠ some b → w'.heap[b]? = W.heap[b]?) ∧ W.heap.size ≤ w'.heap.size := by
  obtain ⟨i, hi, hz0, hz1, hz2⟩ := info_parts Try.infoCh
  obtain ⟨v', w', h1, ho, hg, _, hat⟩ := run_append_own_at (P := Try.prog) W base 32 32 41 i (.agg #[.int .i64 0, .int .i64 0, .int .i64 0, .int .i64 0, .slice none 0 0, .int .i64 0, .int .i64 0, .int .i64 0, .slice none 0 0]) 9 104 Try.underlying32 hi hz0 hz1 hz2 rfl (by decide) v ls.length (rowC ls) hrow.own ⟨N, 0, none⟩ 1 1 (rcCells r) rfl (World.news_of_block hN)
    (rc_one r) (by unfold maxLen; omega) (by omega) (by omega)
  exact ⟨v', w', h1, hrow.snoc hr ho hg hat, below_grown5 hg hb (own_base5 hrow.own), fun b hl hne => hg.block b hl fun e => hne e.symm, hg.size⟩
/-- The value reads as changes. -/
def ChsAt (W : World) (v : Value) (l : List Ch) : Prop :=
  ∃ ls, chsR ls = l ∧ ∃ A c, v = .slice A ls.length c ∧ ls.length ≤ c ∧ c ≤ 9223372036854775807 ∧
    (0 < ls.length → ∃ b off, A = some ⟨b, off, none⟩ ∧ b < W.heap.size ∧ ∀ (j : Nat) (r : Rc), ls[j]? = some r → ∀ k u, (rcCells r)[k]? = some u → W.cell? ⟨b, off + j * 9 + k, none⟩ = some u) ∧ AllCh Any W ls
theorem ChsAt.keep {W W' : World} {v : Value} {l : List Ch} (h : ChsAt W v l) (hb : Below W.heap.size W W') : ChsAt W' v l := by
  obtain ⟨ls, e, A, c, h1, h2, h3, h4, h5⟩ := h
  refine ⟨ls, e, A, c, h1, h2, h3, fun hn => ?_, h5.keep hb⟩
  obtain ⟨b, off, e, hlt, hc⟩ := h4 hn
  exact ⟨b, off, e, Nat.lt_of_lt_of_le hlt hb.size, fun j r hr k u hu => (hb.cell (p := ⟨b, off + j * 9 + k, none⟩) hlt).trans (hc j r hr k u hu)⟩
theorem ChsAt.form {W : World} {v : Value} {l : List Ch} (h : ChsAt W v l) : ∃ A c, v = .slice A l.length c := by
  obtain ⟨ls, rfl, A, c, h1, _⟩ := h
  exact ⟨A, c, by rw [chsR_length]; exact h1⟩
/-- Change j: where it lies. -/
theorem ChsAt.at_ {W : World} {A : Option Addr} {n c : Nat} {l : List Ch} (h : ChsAt W (.slice A n c) l) {j : Nat} {x : Ch} (hj : l[j]? = some x) :
    ∃ b off B1 d1 B2 d2, A = some ⟨b, off, none⟩ ∧ b < W.heap.size ∧ PcsAt W (.slice B1 x.2.1.ps.length d1) x.2.1.ps ∧ PcsAt W (.slice B2 x.2.2.ps.length d2) x.2.2.ps ∧
      W.cell? ⟨b, off + j * 9, none⟩ = some (.int .i64 x.1) ∧ W.cell? ⟨b, off + j * 9 + 1, none⟩ = some (.int .i64 x.2.1.u) ∧ W.cell? ⟨b, off + j * 9 + 2, none⟩ = some (.int .i64 x.2.1.s) ∧ W.cell? ⟨b, off + j * 9 + 3, none⟩ = some (.int .i64 x.2.1.c) ∧ W.cell? ⟨b, off + j * 9 + 4, none⟩ = some (.slice B1 x.2.1.ps.length d1) ∧
      W.cell? ⟨b, off + j * 9 + 5, none⟩ = some (.int .i64 x.2.2.u) ∧ W.cell? ⟨b, off + j * 9 + 6, none⟩ = some (.int .i64 x.2.2.s) ∧ W.cell? ⟨b, off + j * 9 + 7, none⟩ = some (.int .i64 x.2.2.c) ∧ W.cell? ⟨b, off + j * 9 + 8, none⟩ = some (.slice B2 x.2.2.ps.length d2) := by
  obtain ⟨ls, rfl, A', c', h1, h2, h3, h4, h5⟩ := h
  injection h1 with e1 e2 e3
  subst e1
  unfold chsR at hj
  rw [List.getElem?_map] at hj
  obtain ⟨r, hr, rfl⟩ := Option.map_eq_some_iff.1 hj
  obtain ⟨b, off, e, hlt, hc⟩ := h4 (by have := (List.getElem?_eq_some_iff.1 hr).1; omega)
  obtain ⟨p1, p2⟩ := h5 r (List.mem_of_getElem? hr)
  have key := hc j r hr
  exact ⟨b, off, r.2.1.1.1, r.2.1.1.2, r.2.2.1.1, r.2.2.1.2, e, hlt, p1, p2, key 0 _ rfl, key 1 _ rfl, key 2 _ rfl, key 3 _ rfl, key 4 _ rfl, key 5 _ rfl, key 6 _ rfl, key 7 _ rfl, key 8 _ rfl⟩
theorem chs_of_own {W : World} {base : Nat} {v : Value} {ls : List Rc} (h : RowCh W base v ls) : ChsAt W v (chsR ls) := by
  have hp := h.pcs
  obtain ⟨h1, h2⟩ := h.own
  rcases h2 with ⟨rfl, h0⟩ | ⟨g, cap, cur, rfl, hg, hh, hn, hc, hs, ht⟩
  · have : ls = [] := List.eq_nil_of_length_eq_zero h0
    subst this
    exact ⟨[], rfl, none, 0, rfl, Nat.le_refl _, by decide, fun h => absurd h (by decide), AllCh.nil _ _⟩
  · refine ⟨ls, rfl, _, cap, rfl, hn, by unfold maxLen at hc; omega, fun _ => ⟨g, 0, rfl, heap_lt hh, fun j r hr k u hu => ?_⟩, hp.mono fun _ _ _ => trivial⟩
    have hj : j < ls.length := (List.getElem?_eq_some_iff.1 hr).1
    have hk : k < 9 := (List.getElem?_eq_some_iff.1 hu).1
    have hq := rowC_get ls j r hr k u hu
    have e1 : W.cell? ⟨g, j * 9 + k, none⟩ = cur[j * 9 + k]? := cell_of_row W g (j * 9 + k) _ _ (0, 0) hh
    have e2 : cur[j * 9 + k]? = some u := by
      rw [← hq, ← ht, List.getElem?_take, if_pos (by omega)]
      simp
    rw [Nat.zero_add]
    exact e1.trans e2
/-- What a call answers: these changes. -/
def RetCh (l : List Ch) (w : World) (e : Ending) (w9 : World) : Prop := ∃ A c, e = .returned (.slice A l.length c) ∧ ChsAt w9 (.slice A l.length c) l ∧ Below w.heap.size w w9
end Go.Proofs.Ytincbilobmhgeaa
