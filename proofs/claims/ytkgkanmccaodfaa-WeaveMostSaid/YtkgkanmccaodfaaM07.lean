/-
  Drop of program and document.
  Conditions: the slice reads as places.
-/
import Derived.Test.YtkgkanmccaodfaaM06
import Derived.Laws.CopyRow
import Derived.Shelf.Spec.SlicesInsertGrow
import Derived.Test.YtkgkanmccaodfaaM04

/-
  slices.Insert of one place into a row of the caller's own.
  Conditions: the row is of the caller's own; the one that is put lies in another block.
-/
set_option linter.unusedVariables false
namespace Go.Proofs.Ytkgkanmccaodfaa
open Go.RowKit Go.Proofs

def Grew (w : World) (mv mv' : Value) : Prop := ∀ k, mv'.ownBlock = some k → mv.ownBlock = some k ∨ w.heap.size ≤ k
/-- What a call answers that changes a row of its caller's. -/
def RetMp (base e : Nat) (v : Value) (l : List Rp) (w : World) (en : Ending) (w' : World) : Prop := ∃ v', en = .returned v' ∧ w'.ownsRow base e 4 v' l.length (rowP l) ∧ Apart (fun k => v.ownBlock = some k) w w' ∧ Grew w v v'
theorem apart_grown {w w' : World} {row : Option Nat} (hg : w.drew.grownBy w' row) : Apart (fun k => row = some k) w w' := ⟨hg.os, hg.tape, hg.output, hg.size, fun k hk hn => hg.block k hk (fun e => hn e.symm)⟩
theorem apart_grown0 {w w' : World} {row : Option Nat} (hg : w.grownBy w' row) : Apart (fun k => row = some k) w w' := ⟨hg.os, hg.tape, hg.output, hg.size, fun k hk hn => hg.block k hk (fun e => hn e.symm)⟩
theorem rowP_snoc (l : List Rp) (x : Rp) : rowP (l ++ [x]) = rowP l ++ rpCells x := by rw [rowP_append]; simp [rowP]
theorem rp_one (x : Rp) : ∀ u ∈ rpCells x, u.oneCell' = true := by
  intro u hu
  simp [rpCells] at hu
  rcases hu with rfl | rfl | rfl | rfl <;> rfl

def splice (l : List Value) (o : Nat) (cs : List Value) : List Value := l.take o ++ cs ++ l.drop (o + cs.length)
theorem splice_length {l cs : List Value} {o : Nat} (h : o + cs.length ≤ l.length) : (splice l o cs).length = l.length := by simp [splice]; omega
theorem splice_get {l cs : List Value} {o : Nat} (h : o + cs.length ≤ l.length) (j : Nat) : (splice l o cs)[j]? = if o ≤ j ∧ j < o + cs.length then cs[j - o]? else l[j]? := by
  unfold splice
  rw [List.append_assoc]
  by_cases h1 : j < o
  · rw [if_neg (by omega), List.getElem?_append_left (by rw [List.length_take]; omega), List.getElem?_take_of_lt h1]
  · rw [List.getElem?_append_right (by rw [List.length_take]; omega), List.length_take, Nat.min_eq_left (by omega)]
    by_cases h2 : j < o + cs.length
    · rw [if_pos ⟨by omega, h2⟩, List.getElem?_append_left (by omega)]
    · rw [if_neg (by omega), List.getElem?_append_right (by omega), List.getElem?_drop]
      congr 1
      omega

theorem run_copy_k {P : Program} (w : World) (dT sT ty elem : TypeId) (k g o dLen dCap : Nat) (a : Addr) (sLen sCap : Nat) (cur : Array Value) (t : TypeId) (cs : List Value)
    (hu : P.underlying dT = some (.slice elem)) (hs : (P.info? elem).map (·.size) = some k)
    (hg : w.heap[g]? = some (.cells cur t (0, 0))) (hn : cs.length = Nat.min sLen dLen * k)
    (hsrc : ∀ j v, cs[j]? = some v → w.cell? (a.add j) = some v) (hfit : o + cs.length ≤ cur.size) (h1 : ∀ v ∈ cs, v.oneCell' = true) :
    (Builtin.copy_ #[dT, sT] ty #[.slice (some ⟨g, o, none⟩) dLen dCap, .slice (some a) sLen sCap]).run P w =
      .ok (goInt (Nat.min sLen dLen)) (w.setRow g (splice cur.toList o cs).toArray) := by
  have hl := run_firstCells_some (P := P) (w := w) k (Nat.min sLen dLen) a sLen sCap cs hn hsrc
  have hst := run_storeCells_at P g o t cs 0 cur w hg (by simpa using hfit) h1
  cases hq : P.info? elem with
  | none => simp [hq] at hs
  | some i =>
    have hi : i.size = k := by simpa [hq] using hs
    simp only [Nat.add_zero] at hst
    simp [Builtin.copy_, run_underlying hu, Builtin.lenOf, sizeOf, typeInfo, hq, hi, hl, hst, splice]

/-- The row with one more. -/
theorem ins_cells (ps : List Rp) (k : Nat) (x : Rp) : rowP (ps.take k ++ [x] ++ ps.drop k) = (rowP ps).take (k * 4) ++ rpCells x ++ (rowP ps).drop (k * 4) := by
  rw [rowP_append, rowP_append, rowP_take, rowP_drop]
  simp [rowP]
theorem ins_get {S : List Value} {n k : Nat} (us : List Value) (hus : us.length = 4) (hS : S.length = n * 4) (hk : k ≤ n) (j : Nat) :
    (S.take (k * 4) ++ us ++ S.drop (k * 4))[j]? = if j < k * 4 then S[j]? else if j < k * 4 + 4 then us[j - k * 4]? else S[j - 4]? := by
  rw [List.append_assoc]
  by_cases h1 : j < k * 4
  · rw [if_pos h1, List.getElem?_append_left (by rw [List.length_take]; omega), List.getElem?_take_of_lt h1]
  · rw [if_neg h1, List.getElem?_append_right (by rw [List.length_take]; omega), List.length_take, Nat.min_eq_left (by omega)]
    by_cases h2 : j < k * 4 + 4
    · rw [if_pos h2, List.getElem?_append_left (by omega)]
    · rw [if_neg h2, List.getElem?_append_right (by omega), List.getElem?_drop]
      congr 1
      omega
theorem ins_shift4 {l S : List Value} {n k : Nat} (us : List Value) (hus : us.length = 4) (hS : S.length = n * 4) (hk : k < n) (hl : (n + 1) * 4 ≤ l.length) (hp : l.take (n * 4) = S) :
    (splice (splice l ((k + 1) * 4) (S.drop (k * 4))) (k * 4) us).take ((n + 1) * 4) = S.take (k * 4) ++ us ++ S.drop (k * 4) := by
  have hd : (S.drop (k * 4)).length = n * 4 - k * 4 := by rw [List.length_drop, hS]
  apply List.ext_getElem?
  intro j
  rw [ins_get us hus hS (by omega)]
  by_cases hj : j < (n + 1) * 4
  · rw [List.getElem?_take_of_lt hj, splice_get (by rw [splice_length (by rw [hd]; omega)]; omega), splice_get (by rw [hd]; omega)]
    simp only [hus]
    by_cases h1 : j < k * 4
    · rw [if_neg (by omega), if_neg (by omega), if_pos h1, ← hp, List.getElem?_take_of_lt (by omega)]
    · by_cases h2 : j < k * 4 + 4
      · rw [if_pos (by omega), if_neg h1, if_pos h2]
      · rw [if_neg (by omega), if_pos (by rw [hd]; omega), if_neg h1, if_neg h2, List.getElem?_drop]
        congr 1
        omega
  · rw [List.getElem?_take_eq_none (by omega), if_neg (by omega), if_neg (by omega), List.getElem?_eq_none (by omega)]
theorem ins_grow {l S : List Value} {n k : Nat} (us : List Value) (hus : us.length = 4) (hS : S.length = n * 4) (hk : k < n) (hl : (n + 1) * 4 ≤ l.length) (hp : l.take (k * 4) = S.take (k * 4)) :
    (splice (splice l (k * 4) us) ((k + 1) * 4) (S.drop (k * 4))).take ((n + 1) * 4) = S.take (k * 4) ++ us ++ S.drop (k * 4) := by
  have hd : (S.drop (k * 4)).length = n * 4 - k * 4 := by rw [List.length_drop, hS]
  apply List.ext_getElem?
  intro j
  rw [ins_get us hus hS (by omega)]
  by_cases hj : j < (n + 1) * 4
  · rw [List.getElem?_take_of_lt hj, splice_get (by rw [splice_length (by omega), hd]; omega), splice_get (by omega)]
    simp only [hus]
    by_cases h1 : j < k * 4
    · rw [if_neg (by omega), if_neg (by omega), if_pos h1, ← List.getElem?_take_of_lt (l := l) h1, hp, List.getElem?_take_of_lt h1]
    · by_cases h2 : j < k * 4 + 4
      · rw [if_neg (by omega), if_pos (by omega), if_neg h1, if_pos h2]
      · rw [if_pos (by rw [hd]; omega), if_neg h1, if_neg h2, List.getElem?_drop]
        congr 1
        omega
  · rw [List.getElem?_take_eq_none (by omega), if_neg (by omega), if_neg (by omega), List.getElem?_eq_none (by omega)]

theorem setRow_block {w : World} {g k : Nat} {cs : Array Value} (h : k ≠ g) : (w.setRow g cs).heap[k]? = w.heap[k]? := by
  unfold World.setRow
  show (w.heap.modify g _)[k]? = _
  rw [Array.getElem?_modify, if_neg (fun e => h e.symm)]
theorem setRow_size {w : World} {g : Nat} {cs : Array Value} : (w.setRow g cs).heap.size = w.heap.size := by simp [World.setRow]
theorem below_setRow {B : Nat} {a w : World} {g : Nat} {cs : Array Value} (h : Below B a w) (hg : B ≤ g) : Below B a (w.setRow g cs) :=
  h.trans ⟨rfl, rfl, rfl, by rw [setRow_size]; exact Nat.le_refl _, fun k hk => setRow_block (by omega)⟩
theorem Apart.drew1 {F : Nat → Prop} {a w : World} (h : Apart F a w) : Apart F a w.drew := ⟨h.os, h.tape, h.output, h.size, h.block⟩
theorem apart_setRow {F : Nat → Prop} {a w : World} {g : Nat} {cs : Array Value} (h : Apart F a w) (hg : F g) : Apart F a (w.setRow g cs) :=
  h.trans (F' := fun k => k = g) ⟨rfl, rfl, rfl, by rw [setRow_size]; exact Nat.le_refl _, fun k hk hn => setRow_block hn⟩ (fun x hx e => by subst e; exact hg)
theorem Try.sizePl4 : (Try.prog.info? 38).map (·.size) = some 4 := by
  obtain ⟨i0, hi0, h0, h1, h2⟩ := info_parts Try.infoPl
  rw [hi0]; simp [h1]
theorem own_block_cap (A : Option Addr) (n c n' c' : Nat) : (Value.slice A n c).ownBlock = (Value.slice A n' c').ownBlock := by cases A <;> rfl
theorem zeroCells_length (n : Nat) : (Builtin.zeroCells #[.int .i64 0, .int .i64 0, .int .i64 0, .slice none 0 0] n).size = n * 4 := by simp [Builtin.zeroCells]
end Go.Proofs.Ytkgkanmccaodfaa

/-
  Find of program and document.
  Conditions: the slice reads as places.
-/
set_option linter.unusedVariables false
namespace Go.Proofs.Ytkgkanmccaodfaa
open Go.RowKit

/-- What Find answers: the place, or a zero one; its pieces in blocks of F. -/
def RetFind (F : Nat → Prop) (o : Option Pl) (w : World) (e : Ending) (w' : World) : Prop :=
  ∃ v, e = .returned (.tuple #[plA v (o.getD zeroPl), .bool o.isSome]) ∧ PcsIn F w' v (o.getD zeroPl).ps ∧ Below w.heap.size w w'
theorem PcsIn.setRow {F : Nat → Prop} {W : World} {v : Value} {ps : List Pc} (h : PcsIn F W v ps) {N : Nat} {cs : Array Value} (hn : ¬ F N ∨ W.heap.size ≤ N) : PcsIn F (W.setRow N cs) v ps :=
  h.keepF (by simp) fun b hb hF => setRow_other _ _ _ _ (by
    intro e
    subst e
    rcases hn with hn | hn
    · exact hn hF
    · omega)

set_option maxRecDepth 100000 in
set_option maxHeartbeats 4000000 in
theorem find_any (f : Int) (m : Nat) (v : Value) (l : List Pl) (u : Int) (w : World) (h : PlsAt w v l) (hl : l.length ≤ 1000) (hp : ∀ x ∈ l, x.ps.length ≤ 1000) :
    Calls Try.prog 56 #[planA f m v, .int .i64 u] w (RetFind (fun b => w.heap.size ≤ b) (findU l u) w) := by
  have HL := Lib.hid h
  have HPL := Lib.hid hp
  obtain ⟨A, cA, rfl, hlc, hcm⟩ := h.form
  obtain ⟨n, hn⟩ : ∃ n, l.length = n := ⟨_, rfl⟩
  rw [hn] at HL hlc hl ⊢
  have HN := Lib.hid hn
  obtain ⟨w1, P, hw1, hP, hPl, hb1, hbox⟩ := box_any w #[.int .i64 f, .int .u32 m, .slice A n cA] 25
  obtain ⟨w2, U, hw2, hU, hUl, hb2, hub⟩ := box_any w1 #[.int .i64 u] 3
  obtain ⟨w3, R, hw3, hR, hRl, hb3, hrb⟩ := box_any w2 #[.int .i64 0, .int .i64 0, .int .i64 0, .slice none 0 0] 38
  have HB2 := Lib.hid (hb1.trans (hb2.mono hb1.size))
  have HB3 := Lib.hid (HB2.out.trans (hb3.mono HB2.out.size))
  have HPB := Lib.hid (keep_block (keep_block hbox hb2) hb3)
  have HRB := Lib.hid hrb
  have hU3 : U < w3.heap.size := Nat.lt_of_lt_of_le hUl hb3.size
  have hu0 : w3.cell? ⟨U, 0, none⟩ = some (.int .i64 u) := by
    have e := keep_block hub hb3
    simp [World.cell?, e]
  have HI := Lib.hid (indexPl_any (.slice A n cA) l u U w3 (HL.out.keep HB3.out) hU3 hu0)
  have HLT := Lib.hid (show w.heap.size ≤ P ∧ P < U ∧ U < R ∧ R < w3.heap.size by have := hb1.size; have := hb2.size; omega)
  obtain ⟨p0, p1, p2⟩ := three_heads HPB.out
  clear h hp hn hb1 hb2 hb3 hbox hub hrb
  unfold planA
  go_enter Try.func56, Try.ntmps56
  go_wp2_with fail
  refine HI.out.mono ?_
  rintro e w4 ⟨r, rfl, hr, hb4⟩
  have HB4 := Lib.hid (HB3.out.trans (hb4.mono HB3.out.size))
  have HP4 := Lib.hid (keep_block HPB.out hb4)
  have HR4 := Lib.hid (keep_block HRB.out hb4)
  clear hb4 p0 p1 p2 hw1 hP hw2 hU hw3 hu0
  rcases hr with ⟨rfl, hnone⟩ | ⟨k, x, rfl, hx, hfound⟩
  · have HE := Lib.hid hnone
    clear hnone
    go_wp2_with (refine wpList_store_row rfl _ _ _ rfl R #[.int .i64 0, .int .i64 0, .int .i64 0, .slice none 0 0] rfl rfl 38 _ HR4.out (Try.sizePl _ _ _ _) rfl (one4 _ _ _ _ _ _) ?_)
    refine bodyPost_ret (v := .tuple #[.agg #[.int .i64 0, .int .i64 0, .int .i64 0, .slice none 0 0], .bool false]) (results_row_tmp rfl _ _ R _ _ _ _ rfl (setRow_heap _ _ _ _ _ _ HR4.out) Try.underlying38 rfl (Try.sizePl _ _ _ _) _ rfl) rfl ?_
    rw [HE.out]
    exact ⟨_, rfl, PcsIn.nil _ _, below_row16 HB4.out (by have := HLT.out; omega) _⟩
  · have HE := Lib.hid hfound
    have HX := Lib.hid hx
    have hkn : k < n := by have := (List.getElem?_eq_some_iff.1 hx).1; have := HN.out; omega
    have hknz : (k : Int) < (n : Int) := by omega
    have hk0 : (0 : Int) ≤ (k : Int) := by omega
    have hkd : decide ((k : Int) < 0) = false := decide_eq_false (by omega)
    obtain ⟨b, off, B, d, hA, hbl, _, ⟨c0, c1, c2, c3⟩, hps⟩ := (HL.out.keep HB4.out).at_ hx
    subst hA
    simp only at c0 c1 c2 c3
    have HC := Lib.hid (clonePl_any (.slice B x.ps.length d) x w4 hps (HPL.out x (List.mem_of_getElem? hx)))
    unfold plA at HC
    obtain ⟨r0, r1, r2⟩ := three_heads HP4.out
    clear hx hfound hps
    go_wp2_with fail
    refine HC.out.mono ?_
    rintro e w5 ⟨v', rfl, hps5, hb5⟩
    have HPS := Lib.hid hps5
    have HB5 := Lib.hid (HB4.out.trans (hb5.mono HB4.out.size))
    have HR5 := Lib.hid (keep_block HR4.out hb5)
    have HS4 := Lib.hid (show R < w4.heap.size from heap_lt HR4.out)
    obtain ⟨A', d', hv'⟩ := hps5.form
    subst hv'
    clear hb5 hps5 r0 r1 r2
    unfold plA
    go_wp2_with (refine wpList_store_row rfl _ _ _ rfl R #[.int .i64 x.u, .int .i64 x.s, .int .i64 x.c, .slice A' x.ps.length d'] rfl rfl 38 _ HR5.out (Try.sizePl _ _ _ _) rfl (one4 _ _ _ _ _ _) ?_)
    refine bodyPost_ret (v := .tuple #[.agg #[.int .i64 x.u, .int .i64 x.s, .int .i64 x.c, .slice A' x.ps.length d'], .bool true]) (results_row_tmp rfl _ _ R _ _ _ _ rfl (setRow_heap _ _ _ _ _ _ HR5.out) Try.underlying38 rfl (Try.sizePl _ _ _ _) _ rfl) rfl ?_
    rw [HE.out]
    refine ⟨_, rfl, ?_, below_row16 HB5.out (by have := HLT.out; omega) _⟩
    exact (HPS.out.setRow (.inl (by have := HS4.out; omega))).mono fun b _ hF => Nat.le_trans HB4.out.size hF

set_option maxRecDepth 100000 in
set_option maxHeartbeats 4000000 in
theorem refFind_any (f : Int) (m : Nat) (v : Value) (l : List Pl) (u : Int) (w : World) (h : PlsAt w v l) (hl : l.length ≤ 1000) :
    Calls Try.prog 63 #[planA f m v, .int .i64 u] w (RetFind Any (findU l u) w) := by
  have HL := Lib.hid h
  obtain ⟨A, cA, rfl, hlc, hcm⟩ := h.form
  obtain ⟨n, hn⟩ : ∃ n, l.length = n := ⟨_, rfl⟩
  rw [hn] at HL hlc hl ⊢
  have HN := Lib.hid hn
  obtain ⟨w1, P, hw1, hP, hPl, hb1, hbox⟩ := box_any w #[.int .i64 f, .int .u32 m, .slice A n cA] 25
  obtain ⟨w3, R, hw3, hR, hRl, hb3, hrb⟩ := box_any w1 #[.int .i64 0, .int .i64 0, .int .i64 0, .slice none 0 0] 38
  have HB3 := Lib.hid (hb1.trans (hb3.mono hb1.size))
  have HPB := Lib.hid (keep_block hbox hb3)
  have HRB := Lib.hid hrb
  have HLT := Lib.hid (show w.heap.size ≤ P ∧ P < R ∧ R < w3.heap.size by have := hb1.size; omega)
  obtain ⟨p0, p1, p2⟩ := three_heads HPB.out
  clear h hn hb1 hb3 hbox hrb
  unfold planA
  go_enter Try.func63, Try.ntmps63
  go_wp2_with fail
  clear hw1 hP hw3 hR
  go_loopg [6] n (fun gg s6 wr => ∃ k : Nat, k ≤ n ∧ gg = n - k ∧ s6 = .int .i64 k ∧ Hid (findU (l.take k) u = none) ∧ w3 = wr)
  case atStart => exact ⟨0, Nat.zero_le _, by omega, rfl, rfl, rfl⟩
  case round =>
    obtain ⟨k, hk, hg, rfl, HF, rfl⟩ := hrel
    have HG := Lib.hid hg
    clear hg
    by_cases hlt : k < n
    · have hltz : (k : Int) < (n : Int) := by omega
      have hk0 : (0 : Int) ≤ (k : Int) := by omega
      obtain ⟨x, hx⟩ := exP_at (xs := l) (k := k) (by rw [HN.out]; exact hlt)
      obtain ⟨b, off, B, d, hA, hbl, _, hpl, hps⟩ := HL.out.at_ hx
      obtain ⟨c0, c1, c2, c3⟩ := hpl.keep (HB3.out.block b hbl)
      subst hA
      simp only at c0 c1 c2 c3
      have HX := Lib.hid hx
      have HPS := Lib.hid ((hps.mono (G := fun b => b < w.heap.size) fun b hb _ => hb).keep HB3.out)
      clear hx hps hpl
      by_cases hu : x.u = u
      · have hu1 : (x.u == u) = true := by simpa using hu
        have HE := Lib.hid (findU_hit HF HX.out hu)
        clear hu
        go_wp2_with (refine wpList_store_row rfl _ _ _ rfl R #[.int .i64 x.u, .int .i64 x.s, .int .i64 x.c, .slice B x.ps.length d] rfl rfl 38 _ HRB.out (Try.sizePl _ _ _ _) rfl (one4 _ _ _ _ _ _) ?_)
        refine bodyPost_ret (v := .tuple #[.agg #[.int .i64 x.u, .int .i64 x.s, .int .i64 x.c, .slice B x.ps.length d], .bool true]) (results_row_tmp rfl _ _ R _ _ _ _ rfl (setRow_heap _ _ _ _ _ _ HRB.out) Try.underlying38 rfl (Try.sizePl _ _ _ _) _ rfl) rfl ?_
        rw [HE.out]
        refine ⟨_, rfl, ?_, below_row16 HB3.out (by have := HLT.out; omega) _⟩
        exact (HPS.out.setRow (.inl (by have := HLT.out; omega))).any
      · have hu1 : (x.u == u) = false := by simpa using hu
        have HE := Lib.hid (findU_miss HF HX.out hu)
        clear hu
        go_wp2_with fail
        go_roundg (n - (k + 1))
        case measure => have := HG.out; omega
        case rel => exact ⟨k + 1, by omega, rfl, by go_num, HE.out, rfl⟩
    · have hltz : ¬ (k : Int) < (n : Int) := by omega
      have HE : Hid (findU l u = none) := by
        have h : findU (l.take k) u = none := HF
        rwa [List.take_of_length_le (by rw [HN.out]; omega)] at h
      go_wp2_with (refine wpList_store_row rfl _ _ _ rfl R #[.int .i64 0, .int .i64 0, .int .i64 0, .slice none 0 0] rfl rfl 38 _ HRB.out (Try.sizePl _ _ _ _) rfl (one4 _ _ _ _ _ _) ?_)
      refine bodyPost_ret (v := .tuple #[.agg #[.int .i64 0, .int .i64 0, .int .i64 0, .slice none 0 0], .bool false]) (results_row_tmp rfl _ _ R _ _ _ _ rfl (setRow_heap _ _ _ _ _ _ HRB.out) Try.underlying38 rfl (Try.sizePl _ _ _ _) _ rfl) rfl ?_
      rw [HE.out]
      exact ⟨_, rfl, PcsIn.nil _ _, below_row16 HB3.out (by have := HLT.out; omega) _⟩
end Go.Proofs.Ytkgkanmccaodfaa

/-
  The page's plan.
  Conditions: none.
-/
set_option linter.unusedVariables false
namespace Go.Proofs.Ytkgkanmccaodfaa
open Go.RowKit

def exPs : List Pc := [⟨0, 1⟩, ⟨1, 6⟩]
def exL : List Pl := [⟨1, 3, 0, []⟩, ⟨2, 3, 0, exPs⟩]
theorem exL_light : LightL exL := by
  refine ⟨by decide, fun x hx => ?_⟩
  simp only [exL, List.mem_cons, List.not_mem_nil, or_false] at hx
  rcases hx with rfl | rfl
  · refine ⟨⟨⟨by decide, by decide⟩, ⟨by decide, by decide⟩, ⟨by decide, by decide⟩, fun y hy => by cases hy⟩, by decide⟩
  · refine ⟨⟨⟨by decide, by decide⟩, ⟨by decide, by decide⟩, ⟨by decide, by decide⟩, fun y hy => ?_⟩, by decide⟩
    simp only [exPs, List.mem_cons, List.not_mem_nil, or_false] at hy
    rcases hy with rfl | rfl <;> exact ⟨⟨by decide, by decide⟩, by decide⟩
theorem exL_shares : Shares exL := by
  intro x hx
  simp only [exL, List.mem_cons, List.not_mem_nil, or_false] at hx
  rcases hx with rfl | rfl <;> exact ⟨by decide, by decide⟩
theorem exL_right : Right 4 3 exL where
  f2 := by decide
  f64 := by decide
  m0 := by decide
  m16 := by decide
  place := by
    intro x hx
    simp only [exL, List.mem_cons, List.not_mem_nil, or_false] at hx
    rcases hx with rfl | rfl
    · exact ⟨by decide +kernel, by decide, by decide, fun _ => by decide +kernel, fun h => absurd rfl h⟩
    · refine ⟨by decide +kernel, by decide, by decide, fun h => (by cases h), fun _ => ⟨rfl, by decide, ⟨by decide +kernel, by decide, by decide, by decide +kernel, by decide, by decide, trivial⟩, ?_, by decide +kernel⟩⟩
      show ∀ t, t < 64 → nAny exPs t ≤ 1 ∧ (0 < nAny exPs t → (t : Int) < 4)
      decide +kernel
  asc := by
    intro i x y hx hy
    have h : i + 1 < exL.length := (List.getElem?_eq_some_iff.1 hy).1
    have h0 : i = 0 := by simp [exL] at h; omega
    subst h0
    simp [exL] at hx hy
    subst hx
    subst hy
    decide
  apart := by decide +kernel
  few := by decide +kernel
  load := by decide +kernel
theorem exL_room0 : roomN 4 3 exL 0 = 0 := by decide +kernel
theorem exL_room1 : roomN 4 3 exL 1 = 2 := by decide +kernel
theorem exL_free : freeT 4 3 exL 16 = 2 := by decide +kernel
theorem exL_splits : splitsN exL = 1 := by decide +kernel
theorem exL_win : winN (pcsOf exL) 1 = 6 := by decide +kernel
theorem exL_has : hasC 3 1 = true := by decide +kernel
theorem no_zero : ¬ Right 0 0 [] := fun h => by have := h.f2; omega

/-- What a call answers: this plan, its places in blocks of F. -/
def RetPn (F : Nat → Prop) (f : Int) (m : Nat) (l : List Pl) (w : World) (e : Ending) (w' : World) : Prop := ∃ v, e = .returned (planA f m v) ∧ PlsIn F w' v l ∧ Below w.heap.size w w'
theorem below_row {B g : Nat} {a w : World} (h : Below B a w) (hg : B ≤ g) (cs : Array Value) : Below B a (w.setRow g cs) := below_row16 h hg cs
theorem PlsIn.setRow {F : Nat → Prop} {W : World} {v : Value} {l : List Pl} (h : PlsIn F W v l) {N : Nat} {cs : Array Value} (hn : ¬ F N ∨ W.heap.size ≤ N) : PlsIn F (W.setRow N cs) v l :=
  h.keepF (by simp) fun b hb hF => setRow_other _ _ _ _ (by
    intro e
    subst e
    rcases hn with hn | hn
    · exact hn hF
    · omega)
theorem one3 (f : Int) (m : Nat) (A : Option Addr) (n d : Nat) : (#[.int .i64 f, .int .u32 m, .slice A n d] : Array Value).all (·.oneCell') = true := by simp [Value.oneCell']

/-- The page's places, as its cells lie. -/
theorem ex_pls {W : World} {Q R : Nat} (hQ : W.heap[Q]? = some (.cells #[.int .i64 0, .int .u64 1, .int .i64 1, .int .u64 6] 50 (0, 0)))
    (hR : W.heap[R]? = some (.cells #[.int .i64 1, .int .i64 3, .int .i64 0, .slice none 0 0, .int .i64 2, .int .i64 3, .int .i64 0, .slice (some ⟨Q, 0, none⟩) 2 2] 38 (0, 0))) (F : Nat → Prop) (hFQ : F Q) (hFR : F R) :
    PlsIn F W (.slice (some ⟨R, 0, none⟩) 2 2) exL := by
  have lQ := heap_lt hQ
  have lR := heap_lt hR
  have hps : PcsIn F W (.slice (some ⟨Q, 0, none⟩) 2 2) exPs := by
    refine ⟨_, 2, rfl, by decide, by decide, fun _ => ⟨Q, 0, rfl, lQ, hFQ, fun j y hy => ?_⟩⟩
    have h : j < exPs.length := (List.getElem?_eq_some_iff.1 hy).1
    have hj : j = 0 ∨ j = 1 := by simp [exPs] at h; omega
    rcases hj with rfl | rfl
    · cases hy
      exact ⟨by simp [World.cell?, hQ], by simp [World.cell?, hQ]⟩
    · cases hy
      exact ⟨by simp [World.cell?, hQ], by simp [World.cell?, hQ]⟩
  refine ⟨[(.slice none 0 0, ⟨1, 3, 0, []⟩), (.slice (some ⟨Q, 0, none⟩) 2 2, ⟨2, 3, 0, exPs⟩)], rfl, _, 2, rfl, Nat.le_refl 2, by decide, fun _ => ⟨R, 0, rfl, lR, hFR, fun j p hp => ?_⟩, fun p hp => ?_⟩
  · have h := (List.getElem?_eq_some_iff.1 hp).1
    have hj : j = 0 ∨ j = 1 := by simp at h; omega
    rcases hj with rfl | rfl
    · cases hp
      exact ⟨by simp [World.cell?, hR], by simp [World.cell?, hR], by simp [World.cell?, hR], by simp [World.cell?, hR]⟩
    · cases hp
      exact ⟨by simp [World.cell?, hR], by simp [World.cell?, hR], by simp [World.cell?, hR], by simp [World.cell?, hR]⟩
  · simp only [List.mem_cons, List.not_mem_nil, or_false] at hp
    rcases hp with rfl | rfl
    · exact PcsIn.nil _ _
    · exact hps
end Go.Proofs.Ytkgkanmccaodfaa

/-
  Drop of program and document.
  Conditions: the slice reads as places.
-/
set_option linter.unusedVariables false
namespace Go.Proofs.Ytkgkanmccaodfaa
open Go.RowKit

/-- A plan without a unit's place. -/
def dropT (l : List Pl) (u : Int) : List Pl := l.filter fun x => !decide (x.u = u)
theorem drop_take {l : List Pl} {k : Nat} {x : Pl} {u : Int} (hx : l[k]? = some x) : dropT (l.take (k + 1)) u = dropT (l.take k) u ++ (if x.u = u then [] else [x]) := by
  unfold dropT
  rw [List.take_add_one, hx, Option.toList_some, List.filter_append]
  congr 1
  by_cases h : x.u = u
  · simp [h]
  · simp [h]
theorem drop_le (l : List Pl) (u : Int) : (dropT l u).length ≤ l.length := List.length_filter_le _ _
theorem plsR_length (ls : List Rp) : (plsR ls).length = ls.length := by unfold plsR; simp
theorem plsR_snoc (ls : List Rp) (r : Rp) : plsR (ls ++ [r]) = plsR ls ++ [r.2] := by simp [plsR]

/-- A row of places of one's own, their pieces in blocks of F that are not the row's. -/
structure RowPl (W : World) (base : Nat) (F : Nat → Prop) (v : Value) (ls : List Rp) : Prop where
  own : W.ownsRow base 38 4 v ls.length (rowP ls)
  pcs : AllPcs (fun b => F b ∧ v.ownBlock ≠ some b) W ls
theorem RowPl.nil (W : World) (base : Nat) (F : Nat → Prop) : RowPl W base F (.slice none 0 0) [] := ⟨World.ownsRow_nil _ _ _ _, AllPcs.nil _ _⟩
theorem RowPl.keep {W W' : World} {base : Nat} {F : Nat → Prop} {v : Value} {ls : List Rp} (h : RowPl W base F v ls) (hb : Below W.heap.size W W') : RowPl W' base F v ls := ⟨own_below5 h.own hb, h.pcs.keep hb⟩
theorem RowPl.snoc {W W' : World} {base : Nat} {F : Nat → Prop} {v v' : Value} {ls : List Rp} {r : Rp} (h : RowPl W base F v ls) (hr : PcsIn (fun b => F b ∧ v.ownBlock ≠ some b) W (rpV r) r.2.ps)
    (ho : W'.ownsRow base 38 4 v' (ls.length + 1) (rowP ls ++ rpCells r)) (hg : W.grownBy W' v.ownBlock) (hat : v'.ownBlock = v.ownBlock ∨ v'.ownBlock = some W.heap.size) : RowPl W' base F v' (ls ++ [r]) := by
  have hall := h.pcs.snoc hr
  refine ⟨by rw [rowP_snoc, List.length_append]; exact ho, (hall.mono (G := fun b => b < W.heap.size ∧ F b ∧ v.ownBlock ≠ some b) fun b hb hF => ⟨hb, hF⟩).keepF hg.size (fun b hb hF => hg.block b hb fun e => hF.2.2 e.symm) |>.mono fun b _ hF => ⟨hF.2.1, fun e => ?_⟩⟩
  rcases hat with hat | hat
  · exact hF.2.2 (hat ▸ e)
  · rw [hat] at e
    have := Option.some.inj e
    omega
/-- From another base, where the blocks from there on are as they were. -/
theorem RowPl.at_base {W W' : World} {base base' : Nat} {v : Value} {ls : List Rp} (h : RowPl W base (fun b => base ≤ b) v ls) (hb : base' ≤ base) (hs : W.heap.size ≤ W'.heap.size) (hk : ∀ b, base ≤ b → W'.heap[b]? = W.heap[b]?) : RowPl W' base' (fun b => base' ≤ b) v ls :=
  ⟨own_mono5 (own_keep h.own fun k hv => hk k (own_base5 h.own k hv)) hb, (h.pcs.keepF hs fun b _ hF => hk b hF.1).mono fun b _ hF => ⟨by have := hF.1; omega, hF.2⟩⟩
/-- What a call answers: this plan, its places in a row of the call's own. -/
def RetRow (f : Int) (m : Nat) (l : List Pl) (w : World) (e : Ending) (w' : World) : Prop := ∃ v ls, e = .returned (planA f m v) ∧ plsR ls = l ∧ RowPl w' w.heap.size (fun b => w.heap.size ≤ b) v ls ∧ Below w.heap.size w w'
theorem news_rp (W : World) (t : Nat) (r : Rp) : ∀ j u, (rpCells r)[j]? = some u → (W.alloc (.cells #[.int .i64 r.2.u, .int .i64 r.2.s, .int .i64 r.2.c, rpV r] t)).cell? ((⟨W.heap.size, 0, none⟩ : Addr).add j) = some u := World.news_of_block (heap_alloc_new W _)
/-- The end of a call that puts places into its plan and answers it. -/
theorem pn_end {w W : World} {P R : Nat} {F : Nat → Prop} {A : Option Addr} {n d : Nat} {l : List Pl} (hpl : PlsIn F W (.slice A n d) l) (hFP : ¬ F P) (hFR : ¬ F R) (hb : Below w.heap.size w W) (hP : w.heap.size ≤ P) (hR : w.heap.size ≤ R) (cs : Array Value) :
    PlsIn F ((W.setCell ⟨P, 2, none⟩ (.slice A n d)).setRow R cs) (.slice A n d) l ∧ Below w.heap.size w ((W.setCell ⟨P, 2, none⟩ (.slice A n d)).setRow R cs) :=
  ⟨PlsIn.setRow (hpl.keepF (by simp [World.setCell]) fun b hb hF => Below.heap_setCell _ _ _ _ (by intro e; subst e; exact hFP hF)) (.inl hFR), below_row (hb.setCell (p := ⟨P, 2, none⟩) hP _) hR _⟩

/-- What a call answers: this plan, its places' row there even if it is empty. -/
def RetPs (F : Nat → Prop) (f : Int) (m : Nat) (l : List Pl) (w : World) (e : Ending) (w' : World) : Prop := ∃ b o c, e = .returned (planA f m (.slice (some ⟨b, o, none⟩) l.length c)) ∧ PlsIn F w' (.slice (some ⟨b, o, none⟩) l.length c) l ∧ Below w.heap.size w w'
theorem own_some {w : World} {base e size n : Nat} {v : Value} {xs : List Value} (h : w.ownsRow base e size v n xs) (hn : v ≠ .slice none 0 0) : ∃ g o c, v = .slice (some ⟨g, o, none⟩) n c := by
  rcases h.2 with ⟨rfl, h0⟩ | ⟨g, cap, cur, rfl, _⟩
  · exact absurd rfl hn
  · exact ⟨_, _, _, rfl⟩

set_option maxRecDepth 100000 in
set_option maxHeartbeats 4000000 in
theorem refDrop_any (G : Nat → Prop) (f : Int) (m : Nat) (v : Value) (l : List Pl) (u : Int) (w : World) (h : PlsIn G w v l) (hl : l.length ≤ 1000) :
    Calls Try.prog 40 #[planA f m v, .int .i64 u] w (RetPs (fun b => G b ∨ w.heap.size ≤ b) f m (dropT l u) w) := by
  obtain ⟨i0, hi, hz0, hz1, hz2⟩ := info_parts Try.infoPl
  obtain ⟨A, cA, rfl, hlc, hcm⟩ := h.form
  have HL := Lib.hid h
  obtain ⟨w1, P, hw1, hP, hPl, hb1, hbox⟩ := box_any w #[.int .i64 f, .int .u32 m, .slice A l.length cA] 25
  obtain ⟨w2, R, hw2, hR, hRl, hb2, hrox⟩ := box_any w1 #[.int .i64 0, .int .u32 0, .slice none 0 0] 25
  obtain ⟨n, hn⟩ : ∃ n, l.length = n := ⟨_, rfl⟩
  rw [hn] at HL hlc hl hw1 hbox ⊢
  have HN := Lib.hid hn
  have HB1 := Lib.hid (hb1.trans (hb2.mono hb1.size))
  have HBOX := Lib.hid (keep_block hbox hb2)
  have HROX := Lib.hid hrox
  have HLT := Lib.hid (show w.heap.size ≤ P ∧ P < R ∧ R < w2.heap.size ∧ w.heap.size ≤ w2.heap.size by have := hb1.size; have := hb2.size; omega)
  obtain ⟨r0, r1, r2⟩ := three_heads HBOX.out
  clear h hn hb1 hb2 hbox hrox
  unfold planA
  go_enter Try.func40, Try.ntmps40
  go_wp2_with fail
  have HB0 := Lib.hid (show Below w2.heap.size w2 (w2.alloc (Obj.cells #[] 38)) from (Below.refl _ _).alloc (Nat.le_refl _) _)
  have HO0 : Hid ((w2.alloc (Obj.cells #[] 38)).ownsRow w2.heap.size 38 4 (.slice (some ⟨w2.heap.size, 0, none⟩) 0 0) 0 []) :=
    ⟨rfl, .inr ⟨w2.heap.size, 0, #[], rfl, Nat.le_refl _, heap_alloc_new w2 _, Nat.le_refl _, Nat.zero_le _, rfl, rfl⟩⟩
  clear hw1 hP hw2 hR r0 r1 r2
  go_loopg [5, 6] n (fun gg s5 s6 wr => ∃ (k : Nat) (ls : List Rp), k ≤ n ∧ gg = n - k ∧ s6 = .int .i64 k ∧ Below w2.heap.size w2 wr ∧ plsR ls = dropT (l.take k) u ∧ RowPl wr w2.heap.size (fun b => G b ∧ b < w.heap.size) s5 ls ∧ s5 ≠ .slice none 0 0)
  case atStart => exact ⟨0, [], Nat.zero_le _, by omega, rfl, HB0.out, rfl, ⟨HO0.out, AllPcs.nil _ _⟩, fun e => by cases e⟩
  case round =>
    obtain ⟨k, ls, hk, hg, rfl, hbw, hls, hrow, hnn⟩ := hrel
    have HNN := Lib.hid hnn
    clear hnn
    have HBW := Lib.hid hbw
    have HB := Lib.hid (HB1.out.trans (hbw.mono HB1.out.size))
    have HG := Lib.hid hg
    have HLS := Lib.hid hls
    have HRW := Lib.hid hrow
    have HBX := Lib.hid (keep_block HBOX.out hbw)
    have HRX := Lib.hid (keep_block HROX.out hbw)
    obtain ⟨r0, r1, r2⟩ := three_heads HBX.out
    clear hbw hg hls hrow
    by_cases hlt : k < n
    · have hk0 : (0 : Int) ≤ (k : Int) := by omega
      have hltz : (k : Int) < (n : Int) := by omega
      obtain ⟨x, hx⟩ := exP_at (xs := l) (k := k) (by rw [HN.out]; exact hlt)
      obtain ⟨b, off, B, d, hA, hbl, _, hpl, hps⟩ := HL.out.at_ hx
      obtain ⟨c0, c1, c2, c3⟩ := hpl.keep (HB.out.block b hbl)
      subst hA
      simp only at c0 c1 c2 c3
      have HX := Lib.hid hx
      have HPS := Lib.hid hps
      clear hx hps hpl
      have HDT := Lib.hid (drop_take (u := u) HX.out)
      have HKW := Lib.hid ((HPS.out.mono (G := fun b => b < w.heap.size ∧ G b) fun b hb hF => ⟨hb, hF⟩).keep HB.out)
      by_cases hu : x.u = u
      · have hu1 : (x.u != u) = false := by simpa using hu
        rw [if_pos hu, List.append_nil] at HDT
        clear hu
        go_wp2_with fail
        go_roundg (n - (k + 1))
        case measure => have := HG.out; omega
        case rel => exact ⟨k + 1, ls, by omega, rfl, by go_num, HBW.out, HLS.out.trans HDT.out.symm, HRW.out, HNN.out⟩
      · have hu1 : (x.u != u) = true := by simpa using hu
        rw [if_neg hu] at HDT
        clear hu
        have hsz := HBW.out.size
        have hwl := HLT.out
        have HP4 : Hid (PcsIn (fun b => (G b ∧ b < w.heap.size) ∧ u5.ownBlock ≠ some b) wr (rpV ((B, d), x)) x.ps) := Lib.hid (HKW.out.mono fun b _ hF => ⟨⟨hF.2, hF.1⟩, fun e => by
          have := own_base5 HRW.out.own _ e
          omega⟩)
        have hle : ls.length ≤ 1000 := by
          rw [← plsR_length, HLS.out]
          exact Nat.le_trans (drop_le _ _) (by rw [List.length_take]; omega)
        go_wp2_with (at_builtin; refine wpList_append_own_at _ rfl _ _ 23 rfl w2.heap.size 38 i0 (.agg #[.int .i64 0, .int .i64 0, .int .i64 0, .slice none 0 0]) 4 48 Try.underlying23 hi hz0 hz1 hz2 rfl (by decide) _ _ _ rfl (HRW.out.own.alloc _) ⟨wr.heap.size, 0, none⟩ 1 1 (rpCells ((B, d), x)) rfl rfl ?c1 ?c2 ?c3 ?c4 ?c5 ?_)
        case c1 => exact news_rp wr _ ((B, d), x)
        case c2 => exact rp_one _
        case c3 => unfold maxLen; omega
        case c4 => omega
        case c5 => simp; omega
        intro v6 w6 hown6 hgrow hnil hat
        have HNN6 := Lib.hid (show v6 ≠ .slice none 0 0 from fun e => hnil e)
        have hba := (Below.refl wr.heap.size wr).alloc (Nat.le_refl _) (.cells #[.int .i64 x.u, .int .i64 x.s, .int .i64 x.c, .slice B x.ps.length d] 38)
        have HB6 := Lib.hid ((HBW.out.alloc hsz _).trans (below_grown5 hgrow (by simp; omega) (own_base5 HRW.out.own)))
        have HR6 := Lib.hid ((HRW.out.keep hba).snoc (HP4.out.keep hba) hown6 hgrow (hat.imp id fun e => e.trans (by simp)))
        clear hown6 hgrow hsz hat hba hwl hnil
        go_wp2_with fail
        go_roundg (n - (k + 1))
        case measure => have := HG.out; omega
        case rel => exact ⟨k + 1, ls ++ [((B, d), x)], by omega, rfl, by go_num, HB6.out, by rw [plsR_snoc, HLS.out, HDT.out], HR6.out, HNN6.out⟩
    · have hltz : ¬ (k : Int) < (n : Int) := by omega
      have HEQ : Hid (plsR ls = dropT l u) := Lib.hid (by rw [HLS.out, List.take_of_length_le (by rw [HN.out]; omega)])
      obtain ⟨g5, off5, c5, hv5⟩ := own_some HRW.out.own HNN.out
      subst hv5
      have HPN := Lib.hid (pls_of_own HRW.out.own (HRW.out.pcs.mono (G := fun b => G b ∧ b < w.heap.size) fun b _ hF => hF.1))
      rw [HEQ.out] at HPN
      have hlt4 := HLT.out
      have HP9 : Hid ((wr.setCell ⟨P, 2, none⟩ (.slice (some ⟨g5, off5, none⟩) ls.length c5)).heap[P]? = some (.cells #[.int .i64 f, .int .u32 m, .slice (some ⟨g5, off5, none⟩) ls.length c5] 25 (0, 0))) := heap_setCell_mem _ _ _ _ _ _ _ HBX.out
      have HR9 : Hid ((wr.setCell ⟨P, 2, none⟩ (.slice (some ⟨g5, off5, none⟩) ls.length c5)).heap[R]? = some (.cells #[.int .i64 0, .int .u32 0, .slice none 0 0] 25 (0, 0))) := (Below.heap_setCell _ _ _ _ (show R ≠ P by omega)).trans HRX.out
      obtain ⟨g0, g1, g2⟩ := three_heads HP9.out
      obtain ⟨fr⟩ : wr.frozen? ⟨P, 2, none⟩ = false ∧ True := ⟨by have e := HBX.out; simp [World.frozen?, e], trivial⟩
      go_wp2_with (refine wpList_store_row rfl _ _ _ rfl R #[.int .i64 f, .int .u32 m, .slice (some ⟨g5, off5, none⟩) ls.length c5] rfl rfl 25 _ HR9.out (Try.sizePn _ _ _) rfl (one3 _ _ _ _ _) ?_)
      refine bodyPost_ret (v := planA f m (.slice (some ⟨g5, off5, none⟩) ls.length c5)) (results_cell_row rfl _ _ R _ _ _ _ rfl (setRow_heap _ _ _ _ _ _ HR9.out) Try.underlying25 rfl (Try.sizePn _ _ _)) rfl ?_
      refine ⟨g5, off5, c5, by rw [← HEQ.out, plsR_length], by rw [← HEQ.out, plsR_length, HEQ.out]; exact (pn_end (l := dropT l u) (F := fun b => (G b ∧ b < w.heap.size) ∨ w2.heap.size ≤ b) HPN.out (by omega) (by omega) HB.out HLT.out.1 (by omega) _).1.mono fun b _ hb => hb.imp (fun h => h.1) (fun h => by omega), (pn_end (l := dropT l u) (F := fun b => (G b ∧ b < w.heap.size) ∨ w2.heap.size ≤ b) HPN.out (by omega) (by omega) HB.out HLT.out.1 (by omega) _).2⟩
end Go.Proofs.Ytkgkanmccaodfaa
