/-
  slices.Insert of one place into a row of the caller's own.
  Conditions: the row is of the caller's own; the one that is put lies in another block.
-/
import Derived.Test.YtpfpojehcjmfnaaM05
import Derived.Laws.CopyRow
import Derived.Shelf.Spec.SlicesInsertGrow

/-
  Rows of places, each with where its pieces lie.
  Conditions: none.
-/
set_option linter.unusedVariables false
namespace Go.Proofs.Ytpfpojehcjmfnaa
open Go.RowKit

/-- A place, and where its pieces lie. -/
abbrev Rp := (Option Addr × Nat) × Pl
def rpV (r : Rp) : Value := .slice r.1.1 r.2.ps.length r.1.2
def rpCells (m : Rp) : List Value := [.int .i64 m.2.u, .int .i64 m.2.s, .int .i64 m.2.c, rpV m]
def rowP (l : List Rp) : List Value := l.flatMap rpCells
theorem rowP_cons (m : Rp) (l : List Rp) : rowP (m :: l) = .int .i64 m.2.u :: .int .i64 m.2.s :: .int .i64 m.2.c :: rpV m :: rowP l := by simp [rowP, rpCells]
theorem rowP_append (l k : List Rp) : rowP (l ++ k) = rowP l ++ rowP k := by simp [rowP]
theorem rowP_length : ∀ (l : List Rp), (rowP l).length = l.length * 4
  | [] => rfl
  | m :: l => by rw [rowP_cons]; simp [rowP_length l]; omega
theorem rowP_get : ∀ (l : List Rp) (j : Nat) (m : Rp), l[j]? = some m → (rowP l)[j * 4]? = some (.int .i64 m.2.u) ∧ (rowP l)[j * 4 + 1]? = some (.int .i64 m.2.s) ∧ (rowP l)[j * 4 + 2]? = some (.int .i64 m.2.c) ∧ (rowP l)[j * 4 + 3]? = some (rpV m)
  | [], j, m, h => by simp at h
  | x :: l, 0, m, h => by
    simp at h
    subst h
    exact ⟨rfl, rfl, rfl, rfl⟩
  | x :: l, j + 1, m, h => by
    have ih := rowP_get l j m (by simpa using h)
    rw [rowP_cons, show (j + 1) * 4 = j * 4 + 1 + 1 + 1 + 1 by omega]
    simpa using ih
theorem rowP_one (l : List Rp) : ∀ u ∈ rowP l, u.oneCell' = true := by
  intro u hu
  obtain ⟨m, _, hm⟩ := List.mem_flatMap.1 hu
  simp [rpCells] at hm
  rcases hm with rfl | rfl | rfl | rfl <;> rfl
theorem rowP_take : ∀ (l : List Rp) (i : Nat), (rowP l).take (i * 4) = rowP (l.take i)
  | [], i => by simp [rowP]
  | m :: l, 0 => by simp [rowP]
  | m :: l, i + 1 => by
    rw [rowP_cons, show (i + 1) * 4 = i * 4 + 1 + 1 + 1 + 1 by omega, List.take_succ_cons, List.take_succ_cons, List.take_succ_cons, List.take_succ_cons, rowP_take l i, List.take_succ_cons, rowP_cons]
theorem rowP_drop : ∀ (l : List Rp) (i : Nat), (rowP l).drop (i * 4) = rowP (l.drop i)
  | [], i => by simp [rowP]
  | m :: l, 0 => by simp [rowP]
  | m :: l, i + 1 => by
    rw [rowP_cons, show (i + 1) * 4 = i * 4 + 1 + 1 + 1 + 1 by omega, List.drop_succ_cons, List.drop_succ_cons, List.drop_succ_cons, List.drop_succ_cons, rowP_drop l i, List.drop_succ_cons]
theorem rp_of {F : Nat → Prop} {W : World} {v : Value} {x : Pl} (h : PcsIn F W v x.ps) : ∃ r : Rp, r.2 = x ∧ rpV r = v := by
  obtain ⟨A, d, rfl⟩ := h.form
  exact ⟨((A, d), x), rfl, rfl⟩
def plsR (ls : List Rp) : List Pl := ls.map Prod.snd
/-- All pieces of the places lie in blocks of F. -/
def AllPcs (F : Nat → Prop) (W : World) (ls : List Rp) : Prop := ∀ r ∈ ls, PcsIn F W (rpV r) r.2.ps
theorem AllPcs.keepF {F : Nat → Prop} {W W' : World} {ls : List Rp} (h : AllPcs F W ls) (hs : W.heap.size ≤ W'.heap.size) (hk : ∀ b, b < W.heap.size → F b → W'.heap[b]? = W.heap[b]?) : AllPcs F W' ls := fun r hr => (h r hr).keepF hs hk
theorem AllPcs.keep {F : Nat → Prop} {W W' : World} {ls : List Rp} (h : AllPcs F W ls) (hb : Below W.heap.size W W') : AllPcs F W' ls := fun r hr => (h r hr).keep hb
theorem AllPcs.mono {F G : Nat → Prop} {W : World} {ls : List Rp} (h : AllPcs F W ls) (hg : ∀ b, b < W.heap.size → F b → G b) : AllPcs G W ls := fun r hr => (h r hr).mono hg
theorem AllPcs.nil (F : Nat → Prop) (W : World) : AllPcs F W [] := fun r hr => by cases hr
theorem AllPcs.snoc {F : Nat → Prop} {W : World} {ls : List Rp} (h : AllPcs F W ls) {r : Rp} (hr : PcsIn F W (rpV r) r.2.ps) : AllPcs F W (ls ++ [r]) := fun x hx => by
  rcases List.mem_append.1 hx with hx | hx
  · exact h x hx
  · rw [List.mem_singleton.1 hx]; exact hr
/-- A row of one's own that reads as places, their pieces in blocks of F. -/
theorem pls_of_own {W : World} {base : Nat} {v : Value} {ls : List Rp} {F : Nat → Prop} (h : W.ownsRow base 41 4 v ls.length (rowP ls)) (hp : AllPcs F W ls) : PlsIn (fun b => F b ∨ base ≤ b) W v (plsR ls) := by
  have hpp : ∀ p ∈ ls.map (fun r => (rpV r, r.2)), PcsIn (fun b => F b ∨ base ≤ b) W p.1 p.2.ps := fun p hp' => by
    obtain ⟨r, hr, rfl⟩ := List.mem_map.1 hp'
    exact (hp r hr).mono fun b _ hF => .inl hF
  have hl : (ls.map (fun r => (rpV r, r.2))).length = ls.length := by simp
  have he : plsOf (ls.map (fun r => (rpV r, r.2))) = plsR ls := by unfold plsOf plsR; rw [List.map_map]; rfl
  obtain ⟨h1, h2⟩ := h
  rcases h2 with ⟨rfl, h0⟩ | ⟨g, cap, cur, rfl, hg, hh, hn, hc, hs, ht⟩
  · have : ls = [] := List.eq_nil_of_length_eq_zero h0
    subst this
    exact PlsIn.nil _ W
  · refine ⟨_, he, _, cap, by rw [hl], by rw [hl]; exact hn, by unfold maxLen at hc; omega, fun _ => ⟨g, 0, rfl, heap_lt hh, .inr hg, fun j p hp' => ?_⟩, hpp⟩
    rw [List.getElem?_map] at hp'
    obtain ⟨r, hr, rfl⟩ := Option.map_eq_some_iff.1 hp'
    have hj : j < ls.length := (List.getElem?_eq_some_iff.1 hr).1
    obtain ⟨g0, g1, g2, g3⟩ := rowP_get ls j r hr
    have key : ∀ (i : Nat) (u : Value), i < ls.length * 4 → (rowP ls)[i]? = some u → W.cell? ⟨g, 0 + i, none⟩ = some u := by
      intro i u hi hu
      rw [Nat.zero_add, cell_of_row W g i _ _ (0, 0) hh, ← hu, ← ht, List.getElem?_take, if_pos hi]
      simp
    exact ⟨key _ _ (by omega) g0, by rw [Nat.add_assoc]; exact key _ _ (by omega) g1, by rw [Nat.add_assoc]; exact key _ _ (by omega) g2, by rw [Nat.add_assoc]; exact key _ _ (by omega) g3⟩
/-- Places that lie: each with where its pieces lie. -/
theorem pls_rows {F : Nat → Prop} {W : World} {v : Value} {l : List Pl} (h : PlsIn F W v l) : ∃ ls : List Rp, plsR ls = l ∧ AllPcs F W ls ∧ ∃ A c, v = .slice A l.length c ∧ (0 < l.length → ∃ b off, A = some ⟨b, off, none⟩ ∧ b < W.heap.size ∧ F b ∧ ∀ (i : Nat) (u : Value), (rowP ls)[i]? = some u → W.cell? ⟨b, off + i, none⟩ = some u) := by
  obtain ⟨qs, rfl, A, c, rfl, h2, h3, h4, h5⟩ := h
  have key : ∀ qs : List (Value × Pl), (∀ p ∈ qs, PcsIn F W p.1 p.2.ps) → ∃ ls : List Rp, ls.map (fun r => (rpV r, r.2)) = qs := by
    intro qs
    induction qs with
    | nil => exact fun _ => ⟨[], rfl⟩
    | cons p qs ih =>
      intro hq
      obtain ⟨ls, hls⟩ := ih fun q hq' => hq q (by simp [hq'])
      obtain ⟨r, hr1, hr2⟩ := rp_of (hq p (by simp))
      exact ⟨r :: ls, by rw [List.map_cons, hls, hr1, hr2]⟩
  obtain ⟨ls, hls⟩ := key qs h5
  subst hls
  have he : plsOf (ls.map (fun r => (rpV r, r.2))) = plsR ls := by unfold plsOf plsR; rw [List.map_map]; rfl
  rw [he]
  have hlen : (plsR ls).length = ls.length := by unfold plsR; simp
  refine ⟨ls, rfl, fun r hr => h5 (rpV r, r.2) (List.mem_map.2 ⟨r, hr, rfl⟩), A, c, by rw [hlen, List.length_map], fun h0 => ?_⟩
  obtain ⟨b, off, e, hlt, hf, hc⟩ := h4 (by rw [List.length_map]; omega)
  refine ⟨b, off, e, hlt, hf, fun i u hu => ?_⟩
  have hi : i < ls.length * 4 := by
    have := (List.getElem?_eq_some_iff.1 hu).1
    rwa [rowP_length] at this
  obtain ⟨r, hr⟩ := exP_at (xs := ls) (k := i / 4) (by omega)
  obtain ⟨g0, g1, g2, g3⟩ := rowP_get ls (i / 4) r hr
  obtain ⟨k0, k1, k2, k3⟩ := hc (i / 4) (rpV r, r.2) (by rw [List.getElem?_map, hr]; rfl)
  have hm : i = i / 4 * 4 ∨ i = i / 4 * 4 + 1 ∨ i = i / 4 * 4 + 2 ∨ i = i / 4 * 4 + 3 := by omega
  generalize i / 4 = q at *
  rcases hm with rfl | rfl | rfl | rfl
  · rw [g0] at hu; rw [k0]; exact hu
  · rw [g1] at hu; rw [← Nat.add_assoc, k1]; exact hu
  · rw [g2] at hu; rw [← Nat.add_assoc, k2]; exact hu
  · rw [g3] at hu; rw [← Nat.add_assoc, k3]; exact hu
end Go.Proofs.Ytpfpojehcjmfnaa

/-
  slices.Insert of one place into a row of the caller's own.
  Conditions: the row is of the caller's own; the one that is put lies in another block.
-/
set_option linter.unusedVariables false
namespace Go.Proofs.Ytpfpojehcjmfnaa
open Go.RowKit Go.Proofs

def Grew (w : World) (mv mv' : Value) : Prop := ∀ k, mv'.ownBlock = some k → mv.ownBlock = some k ∨ w.heap.size ≤ k
/-- What a call answers that changes a row of its caller's. -/
def RetMp (base e : Nat) (v : Value) (l : List Rp) (w : World) (en : Ending) (w' : World) : Prop := ∃ v', en = .returned v' ∧ w'.ownsRow base e 4 v' l.length (rowP l) ∧ Apart (fun k => v.ownBlock = some k) w w' ∧ Grew w v v'
theorem apart_grown {w w' : World} {row : Option Nat} (hg : w.drew.grownBy w' row) : Apart (fun k => row = some k) w w' := ⟨hg.os, hg.tape, hg.output, hg.size, fun k hk hn => hg.block k hk (fun e => hn e.symm)⟩
theorem apart_grown0 {w w' : World} {row : Option Nat} (hg : w.grownBy w' row) : Apart (fun k => row = some k) w w' := ⟨hg.os, hg.tape, hg.output, hg.size, fun k hk hn => hg.block k hk (fun e => hn e.symm)⟩
theorem rowP_snoc (l : List Rp) (x : Rp) : rowP (l ++ [x]) = rowP l ++ rpCells x := by rw [rowP_append]; simp [rowP]
theorem rp_one (x : Rp) : ∀ u ∈ rpCells x, u.oneCell' = true := by
  intro u hu
  simp [rpCells] at hu
  rcases hu with rfl | rfl | rfl | rfl <;> rfl

def splice (l : List Value) (o : Nat) (cs : List Value) : List Value := l.take o ++ cs ++ l.drop (o + cs.length)
theorem splice_length {l cs : List Value} {o : Nat} (h : o + cs.length ≤ l.length) : (splice l o cs).length = l.length := by simp [splice]; omega
theorem splice_get {l cs : List Value} {o : Nat} (h : o + cs.length ≤ l.length) (j : Nat) : (splice l o cs)[j]? = if o ≤ j ∧ j < o + cs.length then cs[j - o]? else l[j]? := by
  unfold splice
  rw [List.append_assoc]
  by_cases h1 : j < o
  · rw [if_neg (by omega), List.getElem?_append_left (by rw [List.length_take]; omega), List.getElem?_take_of_lt h1]
  · rw [List.getElem?_append_right (by rw [List.length_take]; omega), List.length_take, Nat.min_eq_left (by omega)]
    by_cases h2 : j < o + cs.length
    · rw [if_pos ⟨by omega, h2⟩, List.getElem?_append_left (by omega)]
    · rw [if_neg (by omega), List.getElem?_append_right (by omega), List.getElem?_drop]
      congr 1
      omega

theorem run_copy_k {P : Program} (w : World) (dT sT ty elem : TypeId) (k g o dLen dCap : Nat) (a : Addr) (sLen sCap : Nat) (cur : Array Value) (t : TypeId) (cs : List Value)
    (hu : P.underlying dT = some (.slice elem)) (hs : (P.info? elem).map (·.size) = some k)
    (hg : w.heap[g]? = some (.cells cur t (0, 0))) (hn : cs.length = Nat.min sLen dLen * k)
    (hsrc : ∀ j v, cs[j]? = some v → w.cell? (a.add j) = some v) (hfit : o + cs.length ≤ cur.size) (h1 : ∀ v ∈ cs, v.oneCell' = true) :
    (Builtin.copy_ #[dT, sT] ty #[.slice (some ⟨g, o, none⟩) dLen dCap, .slice (some a) sLen sCap]).run P w =
      .ok (goInt (Nat.min sLen dLen)) (w.setRow g (splice cur.toList o cs).toArray) := by
  have hl := run_firstCells_some (P := P) (w := w) k (Nat.min sLen dLen) a sLen sCap cs hn hsrc
  have hst := run_storeCells_at P g o t cs 0 cur w hg (by simpa using hfit) h1
  cases hq : P.info? elem with
  | none => simp [hq] at hs
  | some i =>
    have hi : i.size = k := by simpa [hq] using hs
    simp only [Nat.add_zero] at hst
    simp [Builtin.copy_, run_underlying hu, Builtin.lenOf, sizeOf, typeInfo, hq, hi, hl, hst, splice]

/-- The row with one more. -/
theorem ins_cells (ps : List Rp) (k : Nat) (x : Rp) : rowP (ps.take k ++ [x] ++ ps.drop k) = (rowP ps).take (k * 4) ++ rpCells x ++ (rowP ps).drop (k * 4) := by
  rw [rowP_append, rowP_append, rowP_take, rowP_drop]
  simp [rowP]
theorem ins_get {S : List Value} {n k : Nat} (us : List Value) (hus : us.length = 4) (hS : S.length = n * 4) (hk : k ≤ n) (j : Nat) :
    (S.take (k * 4) ++ us ++ S.drop (k * 4))[j]? = if j < k * 4 then S[j]? else if j < k * 4 + 4 then us[j - k * 4]? else S[j - 4]? := by
  rw [List.append_assoc]
  by_cases h1 : j < k * 4
  · rw [if_pos h1, List.getElem?_append_left (by rw [List.length_take]; omega), List.getElem?_take_of_lt h1]
  · rw [if_neg h1, List.getElem?_append_right (by rw [List.length_take]; omega), List.length_take, Nat.min_eq_left (by omega)]
    by_cases h2 : j < k * 4 + 4
    · rw [if_pos h2, List.getElem?_append_left (by omega)]
    · rw [if_neg h2, List.getElem?_append_right (by omega), List.getElem?_drop]
      congr 1
      omega
theorem ins_shift4 {l S : List Value} {n k : Nat} (us : List Value) (hus : us.length = 4) (hS : S.length = n * 4) (hk : k < n) (hl : (n + 1) * 4 ≤ l.length) (hp : l.take (n * 4) = S) :
    (splice (splice l ((k + 1) * 4) (S.drop (k * 4))) (k * 4) us).take ((n + 1) * 4) = S.take (k * 4) ++ us ++ S.drop (k * 4) := by
  have hd : (S.drop (k * 4)).length = n * 4 - k * 4 := by rw [List.length_drop, hS]
  apply List.ext_getElem?
  intro j
  rw [ins_get us hus hS (by omega)]
  by_cases hj : j < (n + 1) * 4
  · rw [List.getElem?_take_of_lt hj, splice_get (by rw [splice_length (by rw [hd]; omega)]; omega), splice_get (by rw [hd]; omega)]
    simp only [hus]
    by_cases h1 : j < k * 4
    · rw [if_neg (by omega), if_neg (by omega), if_pos h1, ← hp, List.getElem?_take_of_lt (by omega)]
    · by_cases h2 : j < k * 4 + 4
      · rw [if_pos (by omega), if_neg h1, if_pos h2]
      · rw [if_neg (by omega), if_pos (by rw [hd]; omega), if_neg h1, if_neg h2, List.getElem?_drop]
        congr 1
        omega
  · rw [List.getElem?_take_eq_none (by omega), if_neg (by omega), if_neg (by omega), List.getElem?_eq_none (by omega)]
theorem ins_grow {l S : List Value} {n k : Nat} (us : List Value) (hus : us.length = 4) (hS : S.length = n * 4) (hk : k < n) (hl : (n + 1) * 4 ≤ l.length) (hp : l.take (k * 4) = S.take (k * 4)) :
    (splice (splice l (k * 4) us) ((k + 1) * 4) (S.drop (k * 4))).take ((n + 1) * 4) = S.take (k * 4) ++ us ++ S.drop (k * 4) := by
  have hd : (S.drop (k * 4)).length = n * 4 - k * 4 := by rw [List.length_drop, hS]
  apply List.ext_getElem?
  intro j
  rw [ins_get us hus hS (by omega)]
  by_cases hj : j < (n + 1) * 4
  · rw [List.getElem?_take_of_lt hj, splice_get (by rw [splice_length (by omega), hd]; omega), splice_get (by omega)]
    simp only [hus]
    by_cases h1 : j < k * 4
    · rw [if_neg (by omega), if_neg (by omega), if_pos h1, ← List.getElem?_take_of_lt (l := l) h1, hp, List.getElem?_take_of_lt h1]
    · by_cases h2 : j < k * 4 + 4
      · rw [if_neg (by omega), if_pos (by omega), if_neg h1, if_pos h2]
      · rw [if_pos (by rw [hd]; omega), if_neg h1, if_neg h2, List.getElem?_drop]
        congr 1
        omega
  · rw [List.getElem?_take_eq_none (by omega), if_neg (by omega), if_neg (by omega), List.getElem?_eq_none (by omega)]

theorem setRow_block {w : World} {g k : Nat} {cs : Array Value} (h : k ≠ g) : (w.setRow g cs).heap[k]? = w.heap[k]? := by
  unfold World.setRow
  show (w.heap.modify g _)[k]? = _
  rw [Array.getElem?_modify, if_neg (fun e => h e.symm)]
theorem setRow_size {w : World} {g : Nat} {cs : Array Value} : (w.setRow g cs).heap.size = w.heap.size := by simp [World.setRow]
theorem below_setRow {B : Nat} {a w : World} {g : Nat} {cs : Array Value} (h : Below B a w) (hg : B ≤ g) : Below B a (w.setRow g cs) :=
  h.trans ⟨rfl, rfl, rfl, by rw [setRow_size]; exact Nat.le_refl _, fun k hk => setRow_block (by omega)⟩
theorem Apart.drew1 {F : Nat → Prop} {a w : World} (h : Apart F a w) : Apart F a w.drew := ⟨h.os, h.tape, h.output, h.size, h.block⟩
theorem apart_setRow {F : Nat → Prop} {a w : World} {g : Nat} {cs : Array Value} (h : Apart F a w) (hg : F g) : Apart F a (w.setRow g cs) :=
  h.trans (F' := fun k => k = g) ⟨rfl, rfl, rfl, by rw [setRow_size]; exact Nat.le_refl _, fun k hk hn => setRow_block hn⟩ (fun x hx e => by subst e; exact hg)
theorem Try.sizePl4 : (Try.prog.info? 41).map (·.size) = some 4 := by
  obtain ⟨i0, hi0, h0, h1, h2⟩ := info_parts Try.infoPl
  rw [hi0]; simp [h1]
theorem overlaps_no (w : World) (vb g o lb cb la ca : Nat) (cur one : Array Value) (tA tB : Nat) (hne : vb ≠ g) (hg : w.heap[g]? = some (.cells cur tA (0, 0))) (hv : w.heap[vb]? = some (.cells one tB (0, 0))) (hc : cur.size ≠ 0) :
    (callFunc 57 #[.slice (some ⟨vb, 0, none⟩) la ca, .slice (some ⟨g, o, none⟩) lb cb]).run Try.prog w = .ok (.value (.bool false)) w := by
  rw [run_callFunc_extern Try.func57 (by kernel_rfl) (by kernel_rfl) (by kernel_rfl) (e := Extern.SlicesOverlaps.overlaps #[26, 26] #[4]) (by kernel_rfl),
    Lib.run_overlaps_apart w 26 4 41 Try.underlying26 4 Try.sizeOf41 ⟨vb, 0, none⟩ ⟨g, o, none⟩ la ca lb cb hne tB tA one.size cur.size (by simp [World.shape?, hv]) (by simp [World.shape?, hg]) hc (by simp [World.frozen?, hv]) (by simp [World.frozen?, hv])]
  rfl

theorem own_block_cap (A : Option Addr) (n c n' c' : Nat) : (Value.slice A n c).ownBlock = (Value.slice A n' c').ownBlock := by cases A <;> rfl
set_option maxRecDepth 100000 in
/-- At the end. -/
theorem insert_end (base : Nat) (v : Value) (ps : List Rp) (x : Rp) (vb : Nat) (w : World) (h : w.ownsRow base 41 4 v ps.length (rowP ps)) (hl : ps.length ≤ 1000) (hbase : base ≤ w.heap.size)
    (hv : w.heap[vb]? = some (.cells #[.int .i64 x.2.u, .int .i64 x.2.s, .int .i64 x.2.c, rpV x] 41 (0, 0))) :
    Calls Try.prog 32 #[v, .int .i64 ps.length, .slice (some ⟨vb, 0, none⟩) 1 1] w (RetMp base 41 v (ps ++ [x]) w) := by
  obtain ⟨i0, hi, hz0, hz1, hz2⟩ := info_parts Try.infoPl
  have HO := Lib.hid h
  have HLEN := Lib.hid (show (ps ++ [x]).length = ps.length + 1 by simp)
  have HSN := Lib.hid (rowP_snoc ps x)
  have hnews : Hid (∀ j u, (rpCells x)[j]? = some u → w.cell? ((⟨vb, 0, none⟩ : Addr).add j) = some u) := fun j u hj => by
    rw [Addr.add_lit, Nat.zero_add, cell_of_row w vb j _ _ (0, 0) hv]
    simpa [rpCells] using hj
  obtain ⟨A, c, rfl⟩ := own_form h
  generalize hn : ps.length = n at *
  clear h hn hv
  have hz3 : (n : Int) = (n : Int) := rfl
  have hcap : Hid (n ≤ c) := by
    show n ≤ c
    rcases HO.out.2 with ⟨h1, h2⟩ | ⟨g, cap, cur, h1, _, _, h3, _⟩
    · cases h1; omega
    · cases h1; exact h3
  have hcz : (n : Int) ≤ (c : Int) := Int.ofNat_le.2 hcap.out
  have HONE := Lib.hid (rp_one x)
  have HM := Lib.hid (show n + 1 ≤ maxLen by unfold maxLen; omega)
  have HBY := Lib.hid (show (n + 1) * 48 ≤ 140737488355328 by omega)
  have HBA := Lib.hid hbase
  go_enter Try.func32, Try.ntmps32
  go_wp2_with (at_builtin; refine wpList_append_own_at _ rfl _ _ 26 rfl base 41 i0 (.agg #[.int .i64 0, .int .i64 0, .int .i64 0, .slice none 0 0]) 4 48 Try.underlying26 hi hz0 hz1 hz2 rfl (by decide) _ _ _ rfl HO.out ⟨vb, 0, none⟩ 1 1 (rpCells x) rfl rfl hnews.out HONE.out HM.out HBY.out HBA.out ?_)
  all_goals
    intro v2 w2 hown2 hgrow _ hat2
    have HA2 := Lib.hid (apart_grown0 hgrow)
    have HG2 := Lib.hid hat2
    clear hat2
    have HO2 := Lib.hid hown2
    clear hown2 hgrow
    go_wp2
    go_ret
    refine ⟨_, rfl, ?_, (Apart.refl _ w).trans HA2.out (fun x _ hx => (own_block_cap A n c _ _).trans hx), fun k hk => HG2.out.elim (fun e => .inl ((own_block_cap A n c _ _).trans (e.symm.trans hk))) (fun e => .inr (Nat.le_of_eq (Option.some.inj (e.symm.trans hk))))⟩
    rw [HLEN.out, HSN.out]
    exact HO2.out

set_option maxHeartbeats 4000000 in
set_option maxRecDepth 100000 in
/-- There is room: what stands from there on is moved by one. -/
theorem insert_shift (base : Nat) (g c : Nat) (cur : Array Value) (ps : List Rp) (k : Nat) (x : Rp) (vb : Nat) (w : World) (hg : w.heap[g]? = some (.cells cur 41 (0, 0))) (hbg : base ≤ g)
    (hk : k < ps.length) (hc : ps.length + 1 ≤ c) (hcm : c ≤ maxLen) (hcs : cur.size = c * 4) (ht : cur.toList.take (ps.length * 4) = rowP ps) (hl : ps.length ≤ 1000) (hbase : base ≤ w.heap.size)
    (hv : w.heap[vb]? = some (.cells #[.int .i64 x.2.u, .int .i64 x.2.s, .int .i64 x.2.c, rpV x] 41 (0, 0))) (hne : vb ≠ g) :
    Calls Try.prog 32 #[.slice (some ⟨g, 0, none⟩) ps.length c, .int .i64 k, .slice (some ⟨vb, 0, none⟩) 1 1] w (RetMp base 41 (.slice (some ⟨g, 0, none⟩) ps.length c) (ps.take k ++ [x] ++ ps.drop k) w) := by
  have hov : ∀ lb cb, (callFunc 57 #[.slice (some ⟨vb, 0, none⟩) 1 1, .slice (some ⟨g, (k + 1) * 4, none⟩) lb cb]).run Try.prog w = .ok (.value (.bool false)) w := fun lb cb =>
    overlaps_no w vb g _ lb cb 1 1 cur _ _ _ hne hg hv (by omega)
  have hSl := rowP_length ps
  obtain ⟨cs1, hcs1⟩ : ∃ l, l = (rowP ps).drop (k * 4) := ⟨_, rfl⟩
  have hd : cs1.length = (ps.length - k) * 4 := by rw [hcs1, List.length_drop, hSl]; omega
  have hcl : cur.toList.length = c * 4 := by rw [Array.length_toList]; exact hcs
  obtain ⟨L1, hL1⟩ : ∃ l, l = splice cur.toList ((k + 1) * 4) cs1 := ⟨_, rfl⟩
  have hl1 : L1.length = c * 4 := by rw [hL1, splice_length (by rw [hd, hcl]; omega), hcl]
  obtain ⟨L2, hL2⟩ : ∃ l, l = splice L1 (k * 4) (rpCells x) := ⟨_, rfl⟩
  have hl2 : L2.length = c * 4 := by rw [hL2, splice_length (by simp [rpCells]; omega), hl1]
  have HFIN : Hid (L2.take ((ps.length + 1) * 4) = rowP (ps.take k ++ [x] ++ ps.drop k)) := by
    show _ = _
    rw [ins_cells, hL2, hL1, hcs1]
    exact ins_shift4 _ rfl hSl hk (by omega) ht
  have HFL : Hid ((ps.take k ++ [x] ++ ps.drop k).length = ps.length + 1) := by
    show _ = _
    simp
    omega
  have hcell : ∀ (j : Nat) (u : Value), cs1[j]? = some u → w.cell? ⟨g, k * 4 + j, none⟩ = some u := fun j u hj => by
    rw [cell_of_row w g _ _ _ (0, 0) hg, ← Array.getElem?_toList]
    rw [hcs1, List.getElem?_drop, ← ht] at hj
    by_cases h : k * 4 + j < ps.length * 4
    · rwa [List.getElem?_take_of_lt h] at hj
    · rw [List.getElem?_take_eq_none (by omega)] at hj; cases hj
  have hone : ∀ u ∈ cs1, u.oneCell' = true := fun u hu => rowP_one ps u (by rw [hcs1] at hu; exact List.mem_of_mem_drop hu)
  have hmin1 : Nat.min (ps.length + 1 - k) (ps.length + 1 - (k + 1)) = ps.length - k := by
    show min _ _ = _
    omega
  have hmin2 : Nat.min 1 (ps.length + 1 - k) = 1 := by
    show min _ _ = _
    omega
  obtain ⟨q, hq⟩ : ∃ q : Nat, ps.length - k = q := ⟨_, rfl⟩
  have hqe : ps.length + 1 - (k + 1) = ps.length - k := by omega
  have hcp1 : ∀ ty dc sc, (Builtin.copy_ #[26, 26] ty #[.slice (some ⟨g, (k + 1) * 4, none⟩) (ps.length - k) dc, .slice (some ⟨g, k * 4, none⟩) (ps.length + 1 - k) sc]).run Try.prog w.drew = .ok (goInt q) (w.drew.setRow g L1.toArray) := fun ty dc sc => by
    have := run_copy_k (P := Try.prog) w.drew 26 26 ty 41 4 g ((k + 1) * 4) (ps.length + 1 - (k + 1)) dc ⟨g, k * 4, none⟩ (ps.length + 1 - k) sc cur _ cs1 Try.underlying26 Try.sizePl4 hg (by rw [hd, hmin1]) (fun j u hj => by rw [Addr.add_lit]; exact hcell j u hj) (by rw [hd, hcs]; omega) hone
    rw [hmin1, ← hL1, hqe, hq] at this
    rw [hq]
    exact this
  have hh1 : (w.drew.setRow g L1.toArray).heap[g]? = some (.cells L1.toArray 41 (0, 0)) := setRow_heap w.drew g cur _ _ _ hg
  have hv1 : (w.drew.setRow g L1.toArray).heap[vb]? = some (.cells #[.int .i64 x.2.u, .int .i64 x.2.s, .int .i64 x.2.c, rpV x] 41 (0, 0)) := (setRow_block hne).trans hv
  have hcp2 : ∀ ty dc, (Builtin.copy_ #[26, 26] ty #[.slice (some ⟨g, k * 4, none⟩) (ps.length + 1 - k) dc, .slice (some ⟨vb, 0, none⟩) 1 1]).run Try.prog (w.drew.setRow g L1.toArray) = .ok (goInt 1) ((w.drew.setRow g L1.toArray).setRow g L2.toArray) := fun ty dc => by
    have := run_copy_k (P := Try.prog) (w.drew.setRow g L1.toArray) 26 26 ty 41 4 g (k * 4) (ps.length + 1 - k) dc ⟨vb, 0, none⟩ 1 1 L1.toArray _ (rpCells x) Try.underlying26 Try.sizePl4 hh1 (by rw [hmin2]; rfl)
      (fun j u hj => by rw [Addr.add_lit, Nat.zero_add, cell_of_row _ vb j _ _ (0, 0) hv1]; simpa [rpCells] using hj) (by simp [hl1, rpCells]; omega) (rp_one x)
    rw [hmin2, List.toList_toArray, ← hL2] at this
    exact this
  have HEND : Hid (RetMp base 41 (.slice (some ⟨g, 0, none⟩) ps.length c) (ps.take k ++ [x] ++ ps.drop k) w (.returned (.slice (some ⟨g, 0, none⟩) (ps.length + 1) c)) ((w.drew.setRow g L1.toArray).setRow g L2.toArray)) := by
    refine ⟨_, rfl, ⟨by rw [rowP_length], .inr ⟨g, c, L2.toArray, by rw [HFL.out], hbg, setRow_heap _ g L1.toArray _ _ _ hh1, by rw [HFL.out]; exact hc, hcm, by simpa using hl2, by rw [HFL.out, List.toList_toArray]; exact HFIN.out⟩⟩,
      apart_setRow (apart_setRow (Apart.refl _ w).drew1 rfl) rfl, fun x hx => .inl hx⟩
  generalize hn : ps.length = n at *
  clear hq hqe HFIN HFL hcell hone hmin1 hmin2 hd hcl hl1 hl2 hSl hcs1 hL1 hL2 hh1 hv1 ht hn hcs hg hv
  have hz1 : ¬ ((k : Int) = (n : Int)) := by omega
  have mixed : Try.prog.follows .mixedOrders = true := by kernel_rfl
  have hw1 : IntKind.i64.wrap ((k : Int) + 1) = (k : Int) + 1 := by rw [IntKind.wrap_i64]; omega
  have hw2 : IntKind.i64.wrap ((n : Int) + 1) = (n : Int) + 1 := by rw [IntKind.wrap_i64]; omega
  have hcz : c ≤ 9223372036854775807 := by unfold maxLen at hcm; omega
  have hb1 : (0 : Int) ≤ (k : Int) + 1 := by omega
  have hin : k ≤ n := by omega
  have htn : ((k : Int) + 1).toNat = k + 1 := by omega
  have htn2 : ((n : Int) + 1).toNat = n + 1 := by omega
  have hb2 : ¬ (c = k + 1) := by omega
  have hb4 : ¬ (c = k) := by omega
  have hb5 : (k : Int) ≤ (n : Int) + 1 := by omega
  go_enter Try.func32, Try.ntmps32
  go_wp2_with (simp only [hov])
  go_region_law_o (refine step_copy_runI rfl _ _ 26 26 rfl _ _ (by simp [Act.eval, Act.put]) (by simp [Act.eval, Act.put]) (hcp1 _ _ _) ?_)
  go_wp2_with (at_builtin; refine wpList_copy_runI _ rfl _ _ 26 26 rfl _ _ rfl rfl (hcp2 _ _) ?_)
  go_ret
  exact HEND.out

theorem zeroCells_length (n : Nat) : (Builtin.zeroCells #[.int .i64 0, .int .i64 0, .int .i64 0, .slice none 0 0] n).size = n * 4 := by simp [Builtin.zeroCells]

set_option maxHeartbeats 4000000 in
set_option maxRecDepth 100000 in
/-- There is no room: a new row. -/
theorem insert_grow (base : Nat) (g c : Nat) (ps : List Rp) (k : Nat) (x : Rp) (vb : Nat) (w : World) (hat : ∀ j u, (rowP ps)[j]? = some u → w.cell? ⟨g, j, none⟩ = some u)
    (hk : k < ps.length) (hn : ps.length ≤ c) (hc : c < ps.length + 1) (hl : ps.length ≤ 1000) (hbase : base ≤ w.heap.size) (hgl : g < w.heap.size)
    (hv : w.heap[vb]? = some (.cells #[.int .i64 x.2.u, .int .i64 x.2.s, .int .i64 x.2.c, rpV x] 41 (0, 0))) :
    Calls Try.prog 32 #[.slice (some ⟨g, 0, none⟩) ps.length c, .int .i64 k, .slice (some ⟨vb, 0, none⟩) 1 1] w (RetMp base 41 (.slice (some ⟨g, 0, none⟩) ps.length c) (ps.take k ++ [x] ++ ps.drop k) w) := by
  obtain ⟨i0, hi, hz0, hz1, hz2⟩ := info_parts Try.infoPl
  have hSl := rowP_length ps
  have hvl : vb < w.heap.size := by
    rcases Nat.lt_or_ge vb w.heap.size with h | h
    · exact h
    · rw [Array.getElem?_eq_none h] at hv; cases hv
  obtain ⟨cs1, hcs1⟩ : ∃ l, l = (rowP ps).drop (k * 4) := ⟨_, rfl⟩
  have hd : cs1.length = (ps.length - k) * 4 := by rw [hcs1, List.length_drop, hSl]; omega
  have hold : (Builtin.firstCells i0.size k (.slice (some ⟨g, 0, none⟩) k c)).run Try.prog w.drew = .ok ((rowP ps).take (k * 4)).toArray w.drew := by
    rw [hz1]
    exact run_firstCells_some (w := w.drew) 4 k ⟨g, 0, none⟩ k c _ (by rw [List.length_take, hSl]; omega) (fun j u hj => by
      rw [Addr.add_lit, Nat.zero_add]
      rw [List.getElem?_take] at hj
      split at hj
      · exact hat j u hj
      · cases hj)
  obtain ⟨G, hG⟩ : ∃ G, G = grownCap w (ps.length + 1) c 41 := ⟨_, rfl⟩
  have hGn : ps.length + 1 ≤ G := by rw [hG]; exact grownCap_ge w _ _ _
  have hGm : G ≤ maxLen := by rw [hG]; exact grownCap_le_maxLen w (ps.length + 1) c 41 (by unfold maxLen; omega)
  obtain ⟨ROW, hROW⟩ : ∃ ROW : Array Value, ROW = ((rowP ps).take (k * 4)).toArray ++ Builtin.zeroCells (Value.agg #[.int .i64 0, .int .i64 0, .int .i64 0, .slice none 0 0]).cells (ps.length + 1 - k) ++ Builtin.zeroCells (Value.agg #[.int .i64 0, .int .i64 0, .int .i64 0, .slice none 0 0]).cells (G - (ps.length + 1)) := ⟨_, rfl⟩
  have hRs : ROW.size = G * 4 := by
    rw [hROW, Array.size_append, Array.size_append]
    show _ + (Builtin.zeroCells #[.int .i64 0, .int .i64 0, .int .i64 0, .slice none 0 0] _).size + (Builtin.zeroCells #[.int .i64 0, .int .i64 0, .int .i64 0, .slice none 0 0] _).size = _
    rw [zeroCells_length, zeroCells_length, List.size_toArray, List.length_take, hSl]
    omega
  have hRt : ROW.toList.take (k * 4) = (rowP ps).take (k * 4) := by
    rw [hROW, Array.toList_append, Array.toList_append, List.append_assoc, List.take_append_of_le_length (by simp [hSl]; omega), List.toList_toArray, List.take_take, Nat.min_self]
  have hrz : ∀ ty, (Builtin.append_ #[26, 3] ty #[.slice (some ⟨g, 0, none⟩) k c, .int .i64 ((ps.length : Int) + 1 - (k : Int))]).run Try.prog w =
      .ok (.slice (some ⟨w.heap.size, 0, none⟩) (ps.length + 1) G) (w.drew.alloc (.cells ROW 41)) := fun ty => by
    have h := Lib.run_append_grow_zeros w 26 3 ty 41 i0 _ .i64 .i64 Try.underlying26 Try.underlying3 hi hz0 (some ⟨g, 0, none⟩) k c ((rowP ps).take (k * 4)) hold (ps.length + 1 - k) (by omega) (by omega) (by omega) (by omega) (by rw [hz2]; omega) (by
      rw [hz2, show k + (ps.length + 1 - k) = ps.length + 1 by omega]; exact growslice_fits (by omega) (by omega))
    rw [show k + (ps.length + 1 - k) = ps.length + 1 by omega, ← hG, ← hROW] at h
    rw [show (ps.length : Int) + 1 - (k : Int) = ((ps.length + 1 - k : Nat) : Int) by omega]
    exact h
  obtain ⟨N, hN⟩ : ∃ N, N = w.heap.size := ⟨_, rfl⟩
  obtain ⟨L1, hL1⟩ : ∃ l, l = splice ROW.toList (k * 4) (rpCells x) := ⟨_, rfl⟩
  have hRl : ROW.toList.length = G * 4 := by rw [Array.length_toList]; exact hRs
  have hl1 : L1.length = G * 4 := by rw [hL1, splice_length (by simp [rpCells]; omega), hRl]
  obtain ⟨L2, hL2⟩ : ∃ l, l = splice L1 ((k + 1) * 4) cs1 := ⟨_, rfl⟩
  have hl2 : L2.length = G * 4 := by rw [hL2, splice_length (by rw [hd, hl1]; omega), hl1]
  have HFIN : Hid (L2.take ((ps.length + 1) * 4) = rowP (ps.take k ++ [x] ++ ps.drop k)) := by
    show _ = _
    rw [ins_cells, hL2, hL1, hcs1]
    exact ins_grow _ rfl hSl hk (by omega) hRt
  have HFL : Hid ((ps.take k ++ [x] ++ ps.drop k).length = ps.length + 1) := by
    show _ = _
    simp
    omega
  have hone : ∀ u ∈ cs1, u.oneCell' = true := fun u hu => rowP_one ps u (by rw [hcs1] at hu; exact List.mem_of_mem_drop hu)
  obtain ⟨W1, hW1⟩ : ∃ W1, W1 = w.drew.alloc (.cells ROW 41) := ⟨_, rfl⟩
  have hh0 : W1.heap[N]? = some (.cells ROW 41 (0, 0)) := by rw [hW1, hN]; exact heap_alloc_new w.drew _
  have hv0 : W1.heap[vb]? = some (.cells #[.int .i64 x.2.u, .int .i64 x.2.s, .int .i64 x.2.c, rpV x] 41 (0, 0)) := by
    rw [hW1]
    exact (((Below.refl w.drew.heap.size w.drew).alloc (Nat.le_refl _) (.cells ROW 41)).block vb hvl).trans hv
  have hb0 : Below w.heap.size w W1 := by rw [hW1]; exact (Below.refl w.heap.size w).drew.alloc (Nat.le_refl _) _
  have hmin1 : Nat.min 1 (ps.length + 1 - k) = 1 := by
    show min _ _ = _
    omega
  have hmin2 : Nat.min (ps.length - k) (ps.length + 1 - (k + 1)) = ps.length - k := by
    show min _ _ = _
    omega
  have hqe : ps.length + 1 - (k + 1) = ps.length - k := by omega
  obtain ⟨q, hq⟩ : ∃ q : Nat, ps.length - k = q := ⟨_, rfl⟩
  have hcpA : ∀ ty dc, (Builtin.copy_ #[26, 26] ty #[.slice (some ⟨N, k * 4, none⟩) (ps.length + 1 - k) dc, .slice (some ⟨vb, 0, none⟩) 1 1]).run Try.prog W1 = .ok (goInt 1) (W1.setRow N L1.toArray) := fun ty dc => by
    have := run_copy_k (P := Try.prog) W1 26 26 ty 41 4 N (k * 4) (ps.length + 1 - k) dc ⟨vb, 0, none⟩ 1 1 ROW _ (rpCells x) Try.underlying26 Try.sizePl4 hh0 (by rw [hmin1]; rfl)
      (fun j u hj => by rw [Addr.add_lit, Nat.zero_add, cell_of_row _ vb j _ _ (0, 0) hv0]; simpa [rpCells] using hj) (by simp [hRs, rpCells]; omega) (rp_one x)
    rw [hmin1, ← hL1] at this
    exact this
  have hh1 : (W1.setRow N L1.toArray).heap[N]? = some (.cells L1.toArray 41 (0, 0)) := setRow_heap W1 N ROW _ _ _ hh0
  have hb1 : Below w.heap.size w (W1.setRow N L1.toArray) := below_setRow hb0 (by omega)
  have hcpB : ∀ ty dc sc, (Builtin.copy_ #[26, 26] ty #[.slice (some ⟨N, (k + 1) * 4, none⟩) (ps.length - k) dc, .slice (some ⟨g, k * 4, none⟩) (ps.length - k) sc]).run Try.prog (W1.setRow N L1.toArray).drew = .ok (goInt q) ((W1.setRow N L1.toArray).drew.setRow N L2.toArray) := fun ty dc sc => by
    have := run_copy_k (P := Try.prog) (W1.setRow N L1.toArray).drew 26 26 ty 41 4 N ((k + 1) * 4) (ps.length + 1 - (k + 1)) dc ⟨g, k * 4, none⟩ (ps.length - k) sc L1.toArray _ cs1 Try.underlying26 Try.sizePl4 hh1 (by rw [hd, hmin2])
      (fun j u hj => by
        rw [Addr.add_lit]
        refine (hb1.cell (p := ⟨g, k * 4 + j, none⟩) hgl).trans ?_
        rw [hcs1, List.getElem?_drop] at hj
        exact hat _ _ hj) (by simp [hl1, hd]; omega) hone
    rw [hmin2, List.toList_toArray, ← hL2, hqe, hq] at this
    rw [hq]
    exact this
  have HEND : Hid (RetMp base 41 (.slice (some ⟨g, 0, none⟩) ps.length c) (ps.take k ++ [x] ++ ps.drop k) w (.returned (.slice (some ⟨N, 0, none⟩) (ps.length + 1) G)) ((W1.setRow N L1.toArray).drew.setRow N L2.toArray)) := by
    refine ⟨_, rfl, ⟨by rw [rowP_length], .inr ⟨N, G, L2.toArray, by rw [HFL.out], by omega, setRow_heap _ N L1.toArray _ _ _ hh1, by rw [HFL.out]; exact hGn, hGm, by simpa using hl2, by rw [HFL.out, List.toList_toArray]; exact HFIN.out⟩⟩,
      Apart.of_below (below_setRow hb1.drew (by omega)), fun x hx => .inr (by cases hx; show w.heap.size ≤ N; omega)⟩
  rw [← hN, ← hW1] at hrz
  generalize hnn : ps.length = n at *
  clear hq hqe HFIN HFL hone hmin1 hmin2 hd hl1 hl2 hRl hSl hcs1 hL1 hL2 hh0 hh1 hv0 hb0 hb1 hold hat hRt hRs hROW hG hnn hv hW1 hN hvl hgl
  have hz1 : ¬ ((k : Int) = (n : Int)) := by omega
  have hz3 : (c : Int) < (n : Int) + 1 := by omega
  have mixed : Try.prog.follows .mixedOrders = true := by kernel_rfl
  have hw1 : IntKind.i64.wrap ((k : Int) + 1) = (k : Int) + 1 := by rw [IntKind.wrap_i64]; omega
  have hw2 : IntKind.i64.wrap ((n : Int) + 1) = (n : Int) + 1 := by rw [IntKind.wrap_i64]; omega
  have hcz : G ≤ 9223372036854775807 := by unfold maxLen at hGm; omega
  have hb1 : (0 : Int) ≤ (k : Int) + 1 := by omega
  have hin : k ≤ n := by omega
  have htn : ((k : Int) + 1).toNat = k + 1 := by omega
  have hb2 : ¬ (G = k + 1) := by omega
  have hb4 : ¬ (G = k) := by omega
  have hb6 : ¬ (c = k) := by omega
  have hb5 : (k : Int) ≤ (n : Int) + 1 := by omega
  have hb7 : (k : Int) ≤ (n : Int) := by omega
  go_enter Try.func32, Try.ntmps32
  go_wp2_with (first
    | (at_builtin; refine Lib.wpList_append_run _ rfl _ _ _ _ rfl _ _ rfl rfl _ _ (hrz _) ?_)
    | (at_builtin; refine wpList_copy_runI _ rfl _ _ 26 26 rfl _ _ rfl rfl (hcpA _ _) ?_))
  go_region_law_o (refine step_copy_runI rfl _ _ 26 26 rfl _ _ (by simp [Act.eval, Act.put]) (by simp [Act.eval, Act.put]) (hcpB _ _ _) ?_)
  go_wp2
  go_ret
  exact HEND.out

/-- slices.Insert of one, wherever it goes. -/
theorem insert_any (base : Nat) (v : Value) (ps : List Rp) (k : Nat) (x : Rp) (vb : Nat) (w : World) (h : w.ownsRow base 41 4 v ps.length (rowP ps)) (hk : k ≤ ps.length) (hl : ps.length ≤ 1000) (hbase : base ≤ w.heap.size)
    (hv : w.heap[vb]? = some (.cells #[.int .i64 x.2.u, .int .i64 x.2.s, .int .i64 x.2.c, rpV x] 41 (0, 0))) (hne : v.ownBlock ≠ some vb) :
    Calls Try.prog 32 #[v, .int .i64 k, .slice (some ⟨vb, 0, none⟩) 1 1] w (RetMp base 41 v (ps.take k ++ [x] ++ ps.drop k) w) := by
  by_cases hkn : k = ps.length
  · subst hkn
    have := insert_end base v ps x vb w h hl hbase hv
    rwa [show ps.take ps.length ++ [x] ++ ps.drop ps.length = ps ++ [x] by simp]
  · obtain ⟨h1, h2⟩ := h
    rcases h2 with ⟨_, h0⟩ | ⟨g, cap, cur, rfl, hg, hh, hn, hc, hs, ht⟩
    · omega
    · have hgl : g < w.heap.size := (Array.getElem?_eq_some_iff.1 hh).1
      by_cases hr : ps.length + 1 ≤ cap
      · exact insert_shift base g cap cur ps k x vb w hh hg (by omega) hr hc hs ht hl hbase hv (fun e => hne (by rw [e]; rfl))
      · refine insert_grow base g cap ps k x vb w (fun j u hj => ?_) (by omega) hn (by omega) hl hbase hgl hv
        rw [cell_of_row w g j _ _ (0, 0) hh, ← Array.getElem?_toList]
        rw [← ht] at hj
        by_cases hjn : j < ps.length * 4
        · rwa [List.getElem?_take_of_lt hjn] at hj
        · rw [List.getElem?_take_eq_none (by omega)] at hj; cases hj
end Go.Proofs.Ytpfpojehcjmfnaa
