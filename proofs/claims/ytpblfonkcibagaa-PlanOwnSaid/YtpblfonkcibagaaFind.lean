/-
  A unit's place: slices.IndexFunc, slices.Clone of pieces, clone, Find of both.
  Conditions: the slice reads as places.
-/
import Derived.Test.YtpblfonkcibagaaPlans
import Derived.Shelf.RegionOpenPlain
import Derived.Laws.MakeOwn
set_option linter.unusedVariables false
namespace Go.Proofs.Ytpblfonkcibagaa
open Go.RowKit

def findU (l : List Pl) (u : Int) : Option Pl := l.find? fun x => decide (x.u = u)
def zeroPl : Pl := ⟨0, 0, 0, []⟩
theorem findU_miss {l : List Pl} {k : Nat} {x : Pl} {u : Int} (h : findU (l.take k) u = none) (hx : l[k]? = some x) (hu : x.u ≠ u) : findU (l.take (k + 1)) u = none := by
  unfold findU at h ⊢
  rw [List.take_add_one, hx, Option.toList_some, List.find?_append, h]
  simp [hu]
theorem findU_hit {l : List Pl} {k : Nat} {x : Pl} {u : Int} (h : findU (l.take k) u = none) (hx : l[k]? = some x) (hu : x.u = u) : findU l u = some x := by
  unfold findU at h ⊢
  have e : l = l.take k ++ x :: l.drop (k + 1) := by
    obtain ⟨hk, hx'⟩ := List.getElem?_eq_some_iff.1 hx
    rw [← hx', ← List.drop_eq_getElem_cons hk, List.take_append_drop]
  rw [e, List.find?_append, h]
  simp [hu]
/-- Where a unit's place is. -/
def RetIdx (l : List Pl) (u : Int) (w : World) (e : Ending) (w' : World) : Prop :=
  ∃ r : Int, e = .returned (.int .i64 r) ∧ ((r = -1 ∧ findU l u = none) ∨ ∃ (k : Nat) (x : Pl), r = k ∧ l[k]? = some x ∧ findU l u = some x) ∧ Below w.heap.size w w'

theorem findPred_any (u : Int) (B : Nat) (v : Value) (x : Pl) (W : World) (hB : B < W.heap.size) (hc : W.cell? ⟨B, 0, none⟩ = some (.int .i64 u)) :
    Calls Try.prog 47 #[plA v x, .pointer (some ⟨B, 0, none⟩)] W (RetB (.bool (decide (x.u = u))) W) := by
  obtain ⟨w1, P, hw1, hP, hPl, hb1, hbox⟩ := box_any W #[.int .i64 x.u, .int .i64 x.s, .int .i64 x.c, v] 33
  have HB1 := Lib.hid hb1
  obtain ⟨r0, r1, r2, r3⟩ := four_heads hbox
  have hc1 : w1.cell? ⟨B, 0, none⟩ = some (.int .i64 u) := (hb1.cell (p := ⟨B, 0, none⟩) hB).trans hc
  have hd : (x.u == u) = decide (x.u = u) := by by_cases h : x.u = u <;> simp [h]
  generalize decide (x.u = u) = r at *
  clear hb1 hbox hc
  unfold plA
  go_enter Try.func47, Try.ntmps47
  go_wp2
  all_goals go_ret
  all_goals exact ⟨by simp_all, HB1.out⟩

set_option maxRecDepth 100000 in
set_option maxHeartbeats 2000000 in
theorem indexPl_any (v : Value) (l : List Pl) (u : Int) (C : Nat) (w : World) (h : PlsAt w v l) (hC : C < w.heap.size) (hc : w.cell? ⟨C, 0, none⟩ = some (.int .i64 u)) :
    Calls Try.prog 46 #[v, .func (.func 47) #[] #[.pointer (some ⟨C, 0, none⟩)]] w (RetIdx l u w) := by
  have eg : ∀ args w, (callFunc 47 args).run Try.prog w = .ok (.enter 47 args) w := enters_of Try.func47 (by kernel_rfl) rfl
  have HL := Lib.hid h
  have HC := Lib.hid hc
  have HPR := Lib.hid (fun v x W hB hc => findPred_any u C v x W hB hc)
  unfold plA at HPR
  obtain ⟨A, c, rfl, hc1, hc2⟩ := h.form
  obtain ⟨n, hn⟩ : ∃ n, l.length = n := ⟨_, rfl⟩
  rw [hn] at HL hc1 ⊢
  have HN := Lib.hid hn
  have hbn : n ≤ 9223372036854775807 := by omega
  clear h hn hc
  go_enter Try.func46, Try.ntmps46
  go_wp2_with fail
  go_loopg [5, 8] n (fun gg _ s8 wr => ∃ k : Nat, k ≤ n ∧ gg = n - k ∧ s8 = .int .i64 k ∧ Hid (findU (l.take k) u = none) ∧ Below w.heap.size w wr)
  case atStart => exact ⟨0, Nat.zero_le _, by omega, rfl, rfl, Below.refl _ w⟩
  case round =>
    obtain ⟨k, hk, hg, rfl, HF, hbw⟩ := hrel
    have HG := Lib.hid hg
    have HB := Lib.hid hbw
    clear hg hbw
    by_cases hlt : k < n
    · have hltz : (k : Int) < (n : Int) := by omega
      have hk0 : (0 : Int) ≤ (k : Int) := by omega
      obtain ⟨x, hx⟩ := exP_at (xs := l) (k := k) (by rw [HN.out]; exact hlt)
      obtain ⟨b, off, B, d, hA, hbl, _, ⟨c0, c1, c2, c3⟩, _⟩ := (HL.out.keep HB.out).at_ hx
      subst hA
      simp only at c0 c1 c2 c3
      have HCL := Lib.hid (HPR.out (.slice B x.ps.length d) x wr (Nat.lt_of_lt_of_le hC HB.out.size) ((HB.out.cell (p := ⟨C, 0, none⟩) hC).trans HC.out))
      have HX := Lib.hid hx
      clear hx
      by_cases hu : x.u = u
      · rw [decide_eq_true hu] at HCL
        have HE := Lib.hid (findU_hit HF HX.out hu)
        clear hu
        go_wp2_with (go_at_fn 47; refine HCL.out.mono ?_; rintro e w' ⟨rfl, hb'⟩)
        go_ret
        exact ⟨k, rfl, .inr ⟨k, x, rfl, HX.out, HE.out⟩, HB.out.trans (hb'.mono HB.out.size)⟩
      · rw [decide_eq_false hu] at HCL
        have HE := Lib.hid (findU_miss HF HX.out hu)
        clear hu
        go_wp2_with (go_at_fn 47; refine HCL.out.mono ?_; rintro e w' ⟨rfl, hb'⟩)
        have HB2 := Lib.hid (HB.out.trans (hb'.mono HB.out.size))
        clear hb'
        go_roundg (n - (k + 1))
        case measure => have := HG.out; omega
        case rel => exact ⟨k + 1, by omega, rfl, by go_num, HE.out, HB2.out⟩
    · have hltz : ¬ (k : Int) < (n : Int) := by omega
      have HE : Hid (findU l u = none) := by
        have h : findU (l.take k) u = none := HF
        rwa [List.take_of_length_le (by rw [HN.out]; omega)] at h
      go_wp2
      go_ret
      exact ⟨-1, rfl, .inl ⟨rfl, HE⟩, HB.out⟩

/-! ### Pieces of a place's own -/
def pcsCells (ps : List Pc) : List Value := ps.flatMap pcCells
theorem pcsCells_cons (y : Pc) (ps : List Pc) : pcsCells (y :: ps) = .int .i64 y.c :: .int .u64 y.t :: pcsCells ps := by simp [pcsCells, pcCells]
theorem pcsCells_length : ∀ (ps : List Pc), (pcsCells ps).length = ps.length * 2
  | [] => rfl
  | y :: ps => by rw [pcsCells_cons]; simp [pcsCells_length ps]; omega
theorem pcsCells_get : ∀ (ps : List Pc) (j : Nat) (y : Pc), ps[j]? = some y → (pcsCells ps)[j * 2]? = some (.int .i64 y.c) ∧ (pcsCells ps)[j * 2 + 1]? = some (.int .u64 y.t)
  | [], j, y, h => by simp at h
  | z :: ps, 0, y, h => by
    simp at h
    subst h
    exact ⟨rfl, rfl⟩
  | z :: ps, j + 1, y, h => by
    have ih := pcsCells_get ps j y (by simpa using h)
    rw [pcsCells_cons, show (j + 1) * 2 = j * 2 + 1 + 1 by omega]
    simpa using ih
theorem pcsCells_one (ps : List Pc) : ∀ u ∈ pcsCells ps, u.oneCell' = true := by
  intro u hu
  obtain ⟨y, _, hy⟩ := List.mem_flatMap.1 hu
  simp [pcCells] at hy
  rcases hy with rfl | rfl <;> rfl
theorem pcsCells_of {W : World} {b off : Nat} : ∀ (ps : List Pc), (∀ (j : Nat) (y : Pc), ps[j]? = some y → PcAt W b (off + j * 2) y) → ∀ j u, (pcsCells ps)[j]? = some u → W.cell? ⟨b, off + j, none⟩ = some u := by
  intro ps hc j u h
  have hj : j < ps.length * 2 := by rw [← pcsCells_length]; exact (List.getElem?_eq_some_iff.1 h).1
  obtain ⟨i, hi⟩ : ∃ i, j = i * 2 ∨ j = i * 2 + 1 := ⟨j / 2, by omega⟩
  obtain ⟨y, hy⟩ := exP_at (xs := ps) (k := i) (by omega)
  obtain ⟨g1, g2⟩ := pcsCells_get ps i y hy
  obtain ⟨k1, k2⟩ := hc i y hy
  rcases hi with rfl | rfl
  · rw [g1] at h
    rw [k1]; exact h
  · rw [g2] at h
    rw [← Nat.add_assoc, k2]; exact h
/-- A row of a call's own reads as pieces. -/
theorem pcs_of_own {W : World} {base : Nat} {v : Value} {ps : List Pc} (h : W.ownsRow base 54 2 v ps.length (pcsCells ps)) : PcsIn (fun b => base ≤ b) W v ps := by
  obtain ⟨h1, h2⟩ := h
  rcases h2 with ⟨rfl, h0⟩ | ⟨g, cap, cur, rfl, hg, hh, hn, hc, hs, ht⟩
  · have : ps = [] := List.eq_nil_of_length_eq_zero h0
    subst this
    exact PcsIn.nil _ W
  · refine ⟨_, cap, rfl, hn, by unfold maxLen at hc; omega, fun _ => ⟨g, 0, rfl, heap_lt hh, hg, fun j y hy => ?_⟩⟩
    have hj : j < ps.length := (List.getElem?_eq_some_iff.1 hy).1
    obtain ⟨g1, g2⟩ := pcsCells_get ps j y hy
    have key : ∀ (i : Nat) (u : Value), i < ps.length * 2 → (pcsCells ps)[i]? = some u → W.cell? ⟨g, 0 + i, none⟩ = some u := by
      intro i u hi hu
      rw [Nat.zero_add, cell_of_row W g i _ _ (0, 0) hh, ← hu, ← ht, List.getElem?_take, if_pos hi]
      simp
    exact ⟨key _ _ (by omega) g1, by rw [Nat.add_assoc]; exact key _ _ (by omega) g2⟩
/-- What a call answers: these pieces, in memory of its own. -/
def RetPcs (ps : List Pc) (w : World) (e : Ending) (w' : World) : Prop := ∃ v, e = .returned v ∧ PcsIn (fun b => w.heap.size ≤ b) w' v ps ∧ Below w.heap.size w w'

set_option maxRecDepth 100000 in
set_option maxHeartbeats 2000000 in
theorem clonePcs_any (v : Value) (ps : List Pc) (w : World) (h : PcsAt w v ps) (hl : ps.length ≤ 1000) : Calls Try.prog 70 #[v] w (RetPcs ps w) := by
  obtain ⟨A, c, rfl, hc1, hc2, hat⟩ := h
  have q22 : ∀ (w : World) (a : Option Addr) (n c n' c' : Nat), (binOp .eql 31 (.slice a n c) (.slice none n' c')).run Try.prog w = .ok (.bool a.isNone) w := fun w a n c n' c' => Lib.run_eql_slice_nil w _ _ a n c n' c' Try.underlying31
  rcases A with _ | a
  · have : ps = [] := by
      rcases Nat.eq_zero_or_pos ps.length with h | h
      · exact List.eq_nil_of_length_eq_zero h
      · obtain ⟨b, off, e, _⟩ := hat h; cases e
    subst this
    clear hat
    go_enter Try.func70, Try.ntmps70
    go_wp2
    go_ret
    exact ⟨_, rfl, PcsIn.nil _ _, Below.refl _ _⟩
  · have hb : Below w.heap.size w (w.alloc (.cells #[] 54)) := (Below.refl _ w).alloc (Nat.le_refl _) _
    have hlit := World.ownsRow_lit (base := w.heap.size) (e := 54) (size := 2) w #[] 0 (Nat.le_refl _) (by unfold maxLen; omega) rfl
    obtain ⟨i, hi, hz0, hz1, hz2⟩ := info_parts Try.infoPc
    have HLIT := Lib.hid hlit
    have HB := Lib.hid hb
    have hcell : Hid (∀ j u, (pcsCells ps)[j]? = some u → (w.alloc (.cells #[] 54)).cell? (a.add j) = some u) := Lib.hid (fun j u hj => by
      have hj' : j < ps.length * 2 := by rw [← pcsCells_length]; exact (List.getElem?_eq_some_iff.1 hj).1
      obtain ⟨b, off, e, hlt, _, hc⟩ := hat (by omega)
      cases e
      rw [Addr.add_lit]
      exact (hb.cell (p := ⟨b, off + j, none⟩) hlt).trans (pcsCells_of ps hc j u hj))
    generalize hn : ps.length = n at *
    have HN := Lib.hid hn
    have HI := Lib.hid hi
    have HLEN := Lib.hid (show (pcsCells ps).length = n * 2 by rw [pcsCells_length]; omega)
    have HONE := Lib.hid (pcsCells_one ps)
    have HMX := Lib.hid (show 0 + n ≤ maxLen by unfold maxLen; omega)
    have HBY := Lib.hid (show (0 + n) * 16 ≤ 140737488355328 by omega)
    have HBS := Lib.hid (show w.heap.size ≤ (w.alloc (.cells #[] 54)).heap.size by simp)
    clear hat hlit hb hn
    go_enter Try.func70, Try.ntmps70
    go_wp2_with (at_builtin; refine wpList_append_own _ rfl _ _ 31 rfl w.heap.size 54 i (.agg #[.int .i64 0, .int .u64 0]) 2 16 Try.underlying31 HI.out hz0 hz1 hz2 rfl (by decide) _ 0 [] rfl HLIT.out a n _ (pcsCells ps) rfl HLEN.out hcell.out HONE.out HMX.out HBY.out HBS.out ?_)
    intro v2 w2 hown2 hg2 _
    have HO2 := Lib.hid hown2
    have HB2 := Lib.hid (HB.out.trans ((Below.refl w.heap.size _).grown hg2 (by simp) (fun k hk => by cases hk; exact Nat.le_refl _)))
    clear hown2 hg2
    go_wp2
    go_ret
    have h := HO2.out
    rw [← HN.out] at h
    exact ⟨_, rfl, pcs_of_own h, HB2.out⟩

/-- What a call answers: this place, its pieces in blocks of F. -/
def RetPl (F : Nat → Prop) (x : Pl) (w : World) (e : Ending) (w' : World) : Prop := ∃ v, e = .returned (plA v x) ∧ PcsIn F w' v x.ps ∧ Below w.heap.size w w'
theorem one4 (a b c : Int) (A : Option Addr) (n d : Nat) : (#[.int .i64 a, .int .i64 b, .int .i64 c, .slice A n d] : Array Value).all (·.oneCell') = true := by simp [Value.oneCell']
theorem below_row16 {B g : Nat} {a w : World} (h : Below B a w) (hg : B ≤ g) (cs : Array Value) : Below B a (w.setRow g cs) := h.trans ⟨rfl, rfl, rfl, by simp, fun k hk => setRow_other _ _ _ _ (by omega)⟩

set_option maxRecDepth 100000 in
set_option maxHeartbeats 2000000 in
theorem clonePl_any (v : Value) (x : Pl) (w : World) (h : PcsAt w v x.ps) (hl : x.ps.length ≤ 1000) :
    Calls Try.prog 48 #[plA v x] w (RetPl (fun b => w.heap.size ≤ b) x w) := by
  obtain ⟨w1, P, hw1, hP, hPl, hb1, hbox⟩ := box_any w #[.int .i64 x.u, .int .i64 x.s, .int .i64 x.c, v] 33
  obtain ⟨w2, N, hw2, hN, hNl, hb2, hnb⟩ := box_any w1 #[.int .i64 0, .int .i64 0, .int .i64 0, .slice none 0 0] 33
  have HB2 := Lib.hid (hb1.trans (hb2.mono hb1.size))
  have HC := Lib.hid (clonePcs_any v x.ps w2 (h.keep HB2.out) hl)
  have HPB := Lib.hid (keep_block hbox hb2)
  have HNB := Lib.hid hnb
  obtain ⟨p0, p1, p2, p3⟩ := four_heads HPB.out
  have HLT := Lib.hid (show w.heap.size ≤ P ∧ P < N ∧ N < w2.heap.size by have := hb1.size; omega)
  clear h hb1 hb2 hbox hnb
  unfold plA
  go_enter Try.func48, Try.ntmps48
  go_wp2_with fail
  refine HC.out.mono ?_
  rintro e w3 ⟨v', rfl, hps, hb3⟩
  have HPS := Lib.hid hps
  have HB3 := Lib.hid (HB2.out.trans (hb3.mono HB2.out.size))
  have HP3 := Lib.hid (keep_block HPB.out hb3)
  have HN3 := Lib.hid (keep_block HNB.out hb3)
  have HLT3 := Lib.hid (show N < w3.heap.size by have := HLT.out; have := hb3.size; omega)
  have HF2 := Lib.hid (show w2.heap.size ≤ w3.heap.size from hb3.size)
  have HP4 : Hid ((w3.setCell ⟨P, 3, none⟩ v').heap[P]? = some (.cells #[.int .i64 x.u, .int .i64 x.s, .int .i64 x.c, v'] 33 (0, 0))) := heap_setCell_mem _ _ _ _ _ _ _ HP3.out
  have HN4 : Hid ((w3.setCell ⟨P, 3, none⟩ v').heap[N]? = some (.cells #[.int .i64 0, .int .i64 0, .int .i64 0, .slice none 0 0] 33 (0, 0))) := (Below.heap_setCell _ _ _ _ (show N ≠ P by have := HLT.out; omega)).trans HN3.out
  obtain ⟨w4, hw4⟩ : ∃ w4, w3.setCell ⟨P, 3, none⟩ v' = w4 := ⟨_, rfl⟩
  have HB4 : Hid (Below w.heap.size w w4) := by rw [← hw4]; exact HB3.out.setCell (p := ⟨P, 3, none⟩) HLT.out.1 _
  have HPS4 : Hid (PcsIn (fun b => w.heap.size ≤ b) (w4.setRow N #[.int .i64 x.u, .int .i64 x.s, .int .i64 x.c, v']) v' x.ps) := by
    have h1 := HLT.out
    refine (HPS.out.keepF (by rw [← hw4]; simp [World.setCell]) fun b hb hF => ?_).mono fun b _ hF => by have := HB2.out.size; omega
    have h2 : b ≠ P ∧ b ≠ N := by omega
    rw [← hw4]
    exact (setRow_other _ _ _ _ h2.2).trans (Below.heap_setCell _ _ _ _ h2.1)
  rw [hw4] at HP4 HN4
  obtain ⟨r0, r1, r2, r3⟩ := four_heads HP4.out
  obtain ⟨s0, s1, s2, s3⟩ := four_heads HP3.out
  obtain ⟨f3⟩ : w3.frozen? ⟨P, 3, none⟩ = false ∧ True := ⟨by have e := HP3.out; simp [World.frozen?, e], trivial⟩
  obtain ⟨A', d', hv'⟩ := HPS.out.form
  subst hv'
  clear hps hb3 p0 p1 p2 p3 hw1 hP hw2
  go_wp2_with (refine wpList_store_row rfl _ _ _ rfl N #[.int .i64 x.u, .int .i64 x.s, .int .i64 x.c, .slice A' x.ps.length d'] rfl rfl 33 _ HN4.out (Try.sizePl _ _ _ _) rfl (one4 _ _ _ _ _ _) ?_)
  refine bodyPost_ret (v := .agg #[.int .i64 x.u, .int .i64 x.s, .int .i64 x.c, .slice A' x.ps.length d']) (results_cell_row rfl _ _ N _ _ _ _ rfl (setRow_heap _ _ _ _ _ _ HN4.out) Try.underlying33 rfl (Try.sizePl _ _ _ _)) rfl ?_
  exact ⟨_, rfl, HPS4.out, below_row16 HB4.out (by have := HLT.out; omega) _⟩
end Go.Proofs.Ytpblfonkcibagaa
