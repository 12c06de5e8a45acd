/-
  Find of program and document.
  Conditions: the slice reads as places.
-/
import Derived.Test.YtiadnpipbocecaaGreatM06
import Derived.Laws.CopyRow
import Derived.Shelf.Spec.SlicesInsertGrow

/-
  slices.Insert of one place into a row of the caller's own.
  Conditions: the row is of the caller's own; the one that is put lies in another block.
-/
set_option linter.unusedVariables false
namespace Go.Proofs.YtiadnpipbocecaaGreat
open Go.RowKit Go.Proofs

def Grew (w : World) (mv mv' : Value) : Prop := ∀ k, mv'.ownBlock = some k → mv.ownBlock = some k ∨ w.heap.size ≤ k
/-- What a call answers that changes a row of its caller's. -/
def RetMp (base e : Nat) (v : Value) (l : List Rp) (w : World) (en : Ending) (w' : World) : Prop := ∃ v', en = .returned v' ∧ w'.ownsRow base e 4 v' l.length (rowP l) ∧ Apart (fun k => v.ownBlock = some k) w w' ∧ Grew w v v'
theorem apart_grown {w w' : World} {row : Option Nat} (hg : w.drew.grownBy w' row) : Apart (fun k => row = some k) w w' := ⟨hg.os, hg.tape, hg.output, hg.size, fun k hk hn => hg.block k hk (fun e => hn e.symm)⟩
theorem apart_grown0 {w w' : World} {row : Option Nat} (hg : w.grownBy w' row) : Apart (fun k => row = some k) w w' := ⟨hg.os, hg.tape, hg.output, hg.size, fun k hk hn => hg.block k hk (fun e => hn e.symm)⟩
theorem rowP_snoc (l : List Rp) (x : Rp) : rowP (l ++ [x]) = rowP l ++ rpCells x := by rw [rowP_append]; simp [rowP]
theorem rp_one (x : Rp) : ∀ u ∈ rpCells x, u.oneCell' = true := by
  intro u hu
  simp [rpCells] at hu
  rcases hu with rfl | rfl | rfl | rfl <;> rfl

def splice (l : List Value) (o : Nat) (cs : List Value) : List Value := l.take o ++ cs ++ l.drop (o + cs.length)
theorem splice_length {l cs : List Value} {o : Nat} (h : o + cs.length ≤ l.length) : (splice l o cs).length = l.length := by simp [splice]; omega
theorem splice_get {l cs : List Value} {o : Nat} (h : o + cs.length ≤ l.length) (j : Nat) : (splice l o cs)[j]? = if o ≤ j ∧ j < o + cs.length then cs[j - o]? else l[j]? := by
  unfold splice
  rw [List.append_assoc]
  by_cases h1 : j < o
  · rw [if_neg (by omega), List.getElem?_append_left (by rw [List.length_take]; omega), List.getElem?_take_of_lt h1]
  · rw [List.getElem?_append_right (by rw [List.length_take]; omega), List.length_take, Nat.min_eq_left (by omega)]
    by_cases h2 : j < o + cs.length
    · rw [if_pos ⟨by omega, h2⟩, List.getElem?_append_left (by omega)]
    · rw [if_neg (by omega), List.getElem?_append_right (by omega), List.getElem?_drop]
      congr 1
      omega

theorem run_copy_k {P : Program} (w : World) (dT sT ty elem : TypeId) (k g o dLen dCap : Nat) (a : Addr) (sLen sCap : Nat) (cur : Array Value) (t : TypeId) (cs : List Value)
    (hu : P.underlying dT = some (.slice elem)) (hs : (P.info? elem).map (·.size) = some k)
    (hg : w.heap[g]? = some (.cells cur t (0, 0))) (hn : cs.length = Nat.min sLen dLen * k)
    (hsrc : ∀ j v, cs[j]? = some v → w.cell? (a.add j) = some v) (hfit : o + cs.length ≤ cur.size) (h1 : ∀ v ∈ cs, v.oneCell' = true) :
    (Builtin.copy_ #[dT, sT] ty #[.slice (some ⟨g, o, none⟩) dLen dCap, .slice (some a) sLen sCap]).run P w =
      .ok (goInt (Nat.min sLen dLen)) (w.setRow g (splice cur.toList o cs).toArray) := by
  have hl := run_firstCells_some (P := P) (w := w) k (Nat.min sLen dLen) a sLen sCap cs hn hsrc
  have hst := run_storeCells_at P g o t cs 0 cur w hg (by simpa using hfit) h1
  cases hq : P.info? elem with
  | none => simp [hq] at hs
  | some i =>
    have hi : i.size = k := by simpa [hq] using hs
    simp only [Nat.add_zero] at hst
    simp [Builtin.copy_, run_underlying hu, Builtin.lenOf, sizeOf, typeInfo, hq, hi, hl, hst, splice]

/-- The row with one more. -/
theorem ins_cells (ps : List Rp) (k : Nat) (x : Rp) : rowP (ps.take k ++ [x] ++ ps.drop k) = (rowP ps).take (k * 4) ++ rpCells x ++ (rowP ps).drop (k * 4) := by
  rw [rowP_append, rowP_append, rowP_take, rowP_drop]
  simp [rowP]
theorem ins_get {S : List Value} {n k : Nat} (us : List Value) (hus : us.length = 4) (hS : S.length = n * 4) (hk : k ≤ n) (j : Nat) :
    (S.take (k * 4) ++ us ++ S.drop (k * 4))[j]? = if j < k * 4 then S[j]? else if j < k * 4 + 4 then us[j - k * 4]? else S[j - 4]? := by
  rw [List.append_assoc]
  by_cases h1 : j < k * 4
  · rw [if_pos h1, List.getElem?_append_left (by rw [List.length_take]; omega), List.getElem?_take_of_lt h1]
  · rw [if_neg h1, List.getElem?_append_right (by rw [List.length_take]; omega), List.length_take, Nat.min_eq_left (by omega)]
    by_cases h2 : j < k * 4 + 4
    · rw [if_pos h2, List.getElem?_append_left (by omega)]
    · rw [if_neg h2, List.getElem?_append_right (by omega), List.getElem?_drop]
      congr 1
      omega
theorem ins_shift4 {l S : List Value} {n k : Nat} (us : List Value) (hus : us.length = 4) (hS : S.length = n * 4) (hk : k < n) (hl : (n + 1) * 4 ≤ l.length) (hp : l.take (n * 4) = S) :
    (splice (splice l ((k + 1) * 4) (S.drop (k * 4))) (k * 4) us).take ((n + 1) * 4) = S.take (k * 4) ++ us ++ S.drop (k * 4) := by
  have hd : (S.drop (k * 4)).length = n * 4 - k * 4 := by rw [List.length_drop, hS]
  apply List.ext_getElem?
  intro j
  rw [ins_get us hus hS (by omega)]
  by_cases hj : j < (n + 1) * 4
  · rw [List.getElem?_take_of_lt hj, splice_get (by rw [splice_length (by rw [hd]; omega)]; omega), splice_get (by rw [hd]; omega)]
    simp only [hus]
    by_cases h1 : j < k * 4
    · rw [if_neg (by omega), if_neg (by omega), if_pos h1, ← hp, List.getElem?_take_of_lt (by omega)]
    · by_cases h2 : j < k * 4 + 4
      · rw [if_pos (by omega), if_neg h1, if_pos h2]
      · rw [if_neg (by omega), if_pos (by rw [hd]; omega), if_neg h1, if_neg h2, List.getElem?_drop]
        congr 1
        omega
  · rw [List.getElem?_take_eq_none (by omega), if_neg (by omega), if_neg (by omega), List.getElem?_eq_none (by omega)]
theorem ins_grow {l S : List Value} {n k : Nat} (us : List Value) (hus : us.length = 4) (hS : S.length = n * 4) (hk : k < n) (hl : (n + 1) * 4 ≤ l.length) (hp : l.take (k * 4) = S.take (k * 4)) :
    (splice (splice l (k * 4) us) ((k + 1) * 4) (S.drop (k * 4))).take ((n + 1) * 4) = S.take (k * 4) ++ us ++ S.drop (k * 4) := by
  have hd : (S.drop (k * 4)).length = n * 4 - k * 4 := by rw [List.length_drop, hS]
  apply List.ext_getElem?
  intro j
  rw [ins_get us hus hS (by omega)]
  by_cases hj : j < (n + 1) * 4
  · rw [List.getElem?_take_of_lt hj, splice_get (by rw [splice_length (by omega), hd]; omega), splice_get (by omega)]
    simp only [hus]
    by_cases h1 : j < k * 4
    · rw [if_neg (by omega), if_neg (by omega), if_pos h1, ← List.getElem?_take_of_lt (l := l) h1, hp, List.getElem?_take_of_lt h1]
    · by_cases h2 : j < k * 4 + 4
      · rw [if_neg (by omega), if_pos (by omega), if_neg h1, if_pos h2]
      · rw [if_pos (by rw [hd]; omega), if_neg h1, if_neg h2, List.getElem?_drop]
        congr 1
        omega
  · rw [List.getElem?_take_eq_none (by omega), if_neg (by omega), if_neg (by omega), List.getElem?_eq_none (by omega)]

theorem setRow_block {w : World} {g k : Nat} {cs : Array Value} (h : k ≠ g) : (w.setRow g cs).heap[k]? = w.heap[k]? := by
  unfold World.setRow
  show (w.heap.modify g _)[k]? = _
  rw [Array.getElem?_modify, if_neg (fun e => h e.symm)]
theorem setRow_size {w : World} {g : Nat} {cs : Array Value} : (w.setRow g cs).heap.size = w.heap.size := by simp [World.setRow]
theorem below_setRow {B : Nat} {a w : World} {g : Nat} {cs : Array Value} (h : Below B a w) (hg : B ≤ g) : Below B a (w.setRow g cs) :=
  h.trans ⟨rfl, rfl, rfl, by rw [setRow_size]; exact Nat.le_refl _, fun k hk => setRow_block (by omega)⟩
theorem Apart.drew1 {F : Nat → Prop} {a w : World} (h : Apart F a w) : Apart F a w.drew := ⟨h.os, h.tape, h.output, h.size, h.block⟩
theorem apart_setRow {F : Nat → Prop} {a w : World} {g : Nat} {cs : Array Value} (h : Apart F a w) (hg : F g) : Apart F a (w.setRow g cs) :=
  h.trans (F' := fun k => k = g) ⟨rfl, rfl, rfl, by rw [setRow_size]; exact Nat.le_refl _, fun k hk hn => setRow_block hn⟩ (fun x hx e => by subst e; exact hg)
theorem Tryz.sizePl4 : (Tryz.prog.info? 43).map (·.size) = some 4 := by
  obtain ⟨i0, hi0, h0, h1, h2⟩ := info_parts Tryz.infoPl
  rw [hi0]; simp [h1]
theorem overlaps_no (w : World) (vb g o lb cb la ca : Nat) (cur one : Array Value) (tA tB : Nat) (hne : vb ≠ g) (hg : w.heap[g]? = some (.cells cur tA (0, 0))) (hv : w.heap[vb]? = some (.cells one tB (0, 0))) (hc : cur.size ≠ 0) :
    (callFunc 78 #[.slice (some ⟨vb, 0, none⟩) la ca, .slice (some ⟨g, o, none⟩) lb cb]).run Tryz.prog w = .ok (.value (.bool false)) w := by
  rw [run_callFunc_extern Tryz.func78 (by kernel_rfl) (by kernel_rfl) (by kernel_rfl) (e := Extern.SlicesOverlaps.overlaps #[23, 23] #[4]) (by kernel_rfl),
    Lib.run_overlaps_apart w 23 4 43 Tryz.underlying23 4 Tryz.sizeOf43 ⟨vb, 0, none⟩ ⟨g, o, none⟩ la ca lb cb hne tB tA one.size cur.size (by simp [World.shape?, hv]) (by simp [World.shape?, hg]) hc (by simp [World.frozen?, hv]) (by simp [World.frozen?, hv])]
  rfl

theorem own_block_cap (A : Option Addr) (n c n' c' : Nat) : (Value.slice A n c).ownBlock = (Value.slice A n' c').ownBlock := by cases A <;> rfl
set_option maxRecDepth 100000 in
/-- At the end. -/
theorem insert_end (base : Nat) (v : Value) (ps : List Rp) (x : Rp) (vb : Nat) (w : World) (h : w.ownsRow base 43 4 v ps.length (rowP ps)) (hl : ps.length ≤ 1000) (hbase : base ≤ w.heap.size)
    (hv : w.heap[vb]? = some (.cells #[.int .i64 x.2.u, .int .i64 x.2.s, .int .i64 x.2.c, rpV x] 43 (0, 0))) :
    Calls Tryz.prog 53 #[v, .int .i64 ps.length, .slice (some ⟨vb, 0, none⟩) 1 1] w (RetMp base 43 v (ps ++ [x]) w) := by
  obtain ⟨i0, hi, hz0, hz1, hz2⟩ := info_parts Tryz.infoPl
  have HO := Lib.hid h
  have HLEN := Lib.hid (show (ps ++ [x]).length = ps.length + 1 by simp)
  have HSN := Lib.hid (rowP_snoc ps x)
  have hnews : Hid (∀ j u, (rpCells x)[j]? = some u → w.cell? ((⟨vb, 0, none⟩ : Addr).add j) = some u) := fun j u hj => by
    rw [Addr.add_lit, Nat.zero_add, cell_of_row w vb j _ _ (0, 0) hv]
    simpa [rpCells] using hj
  obtain ⟨A, c, rfl⟩ := own_form h
  generalize hn : ps.length = n at *
  clear h hn hv
  have hz3 : (n : Int) = (n : Int) := rfl
  have hcap : Hid (n ≤ c) := by
    show n ≤ c
    rcases HO.out.2 with ⟨h1, h2⟩ | ⟨g, cap, cur, h1, _, _, h3, _⟩
    · cases h1; omega
    · cases h1; exact h3
  have hcz : (n : Int) ≤ (c : Int) := Int.ofNat_le.2 hcap.out
  have HONE := Lib.hid (rp_one x)
  have HM := Lib.hid (show n + 1 ≤ maxLen by unfold maxLen; omega)
  have HBY := Lib.hid (show (n + 1) * 48 ≤ 140737488355328 by omega)
  have HBA := Lib.hid hbase
  go_enter Tryz.func53, Tryz.ntmps53
  go_wp2_with (at_builtin; refine wpList_append_own_at _ rfl _ _ 23 rfl base 43 i0 (.agg #[.int .i64 0, .int .i64 0, .int .i64 0, .slice none 0 0]) 4 48 Tryz.underlying23 hi hz0 hz1 hz2 rfl (by decide) _ _ _ rfl HO.out ⟨vb, 0, none⟩ 1 1 (rpCells x) rfl rfl hnews.out HONE.out HM.out HBY.out HBA.out ?_)
  all_goals
    intro v2 w2 hown2 hgrow _ hat2
    have HA2 := Lib.hid (apart_grown0 hgrow)
    have HG2 := Lib.hid hat2
    clear hat2
    have HO2 := Lib.hid hown2
    clear hown2 hgrow
    go_wp2
    go_ret
    refine ⟨_, rfl, ?_, (Apart.refl _ w).trans HA2.out (fun x _ hx => (own_block_cap A n c _ _).trans hx), fun k hk => HG2.out.elim (fun e => .inl ((own_block_cap A n c _ _).trans (e.symm.trans hk))) (fun e => .inr (Nat.le_of_eq (Option.some.inj (e.symm.trans hk))))⟩
    rw [HLEN.out, HSN.out]
    exact HO2.out

set_option maxHeartbeats 4000000 in
set_option maxRecDepth 100000 in
/-- There is room: what stands from there on is moved by one. -/
theorem insert_shift (base : Nat) (g c : Nat) (cur : Array Value) (ps : List Rp) (k : Nat) (x : Rp) (vb : Nat) (w : World) (hg : w.heap[g]? = some (.cells cur 43 (0, 0))) (hbg : base ≤ g)
    (hk : k < ps.length) (hc : ps.length + 1 ≤ c) (hcm : c ≤ maxLen) (hcs : cur.size = c * 4) (ht : cur.toList.take (ps.length * 4) = rowP ps) (hl : ps.length ≤ 1000) (hbase : base ≤ w.heap.size)
    (hv : w.heap[vb]? = some (.cells #[.int .i64 x.2.u, .int .i64 x.2.s, .int .i64 x.2.c, rpV x] 43 (0, 0))) (hne : vb ≠ g) :
    Calls Tryz.prog 53 #[.slice (some ⟨g, 0, none⟩) ps.length c, .int .i64 k, .slice (some ⟨vb, 0, none⟩) 1 1] w (RetMp base 43 (.slice (some ⟨g, 0, none⟩) ps.length c) (ps.take k ++ [x] ++ ps.drop k) w) := by
  have hov : ∀ lb cb, (callFunc 78 #[.slice (some ⟨vb, 0, none⟩) 1 1, .slice (some ⟨g, (k + 1) * 4, none⟩) lb cb]).run Tryz.prog w = .ok (.value (.bool false)) w := fun lb cb =>
    overlaps_no w vb g _ lb cb 1 1 cur _ _ _ hne hg hv (by omega)
  have hSl := rowP_length ps
  obtain ⟨cs1, hcs1⟩ : ∃ l, l = (rowP ps).drop (k * 4) := ⟨_, rfl⟩
  have hd : cs1.length = (ps.length - k) * 4 := by rw [hcs1, List.length_drop, hSl]; omega
  have hcl : cur.toList.length = c * 4 := by rw [Array.length_toList]; exact hcs
  obtain ⟨L1, hL1⟩ : ∃ l, l = splice cur.toList ((k + 1) * 4) cs1 := ⟨_, rfl⟩
  have hl1 : L1.length = c * 4 := by rw [hL1, splice_length (by rw [hd, hcl]; omega), hcl]
  obtain ⟨L2, hL2⟩ : ∃ l, l = splice L1 (k * 4) (rpCells x) := ⟨_, rfl⟩
  have hl2 : L2.length = c * 4 := by rw [hL2, splice_length (by simp [rpCells]; omega), hl1]
  have HFIN : Hid (L2.take ((ps.length + 1) * 4) = rowP (ps.take k ++ [x] ++ ps.drop k)) := by
    show _ = _
    rw [ins_cells, hL2, hL1, hcs1]
    exact ins_shift4 _ rfl hSl hk (by omega) ht
  have HFL : Hid ((ps.take k ++ [x] ++ ps.drop k).length = ps.length + 1) := by
    show _ = _
    simp
    omega
  have hcell : ∀ (j : Nat) (u : Value), cs1[j]? = some u → w.cell? ⟨g, k * 4 + j, none⟩ = some u := fun j u hj => by
    rw [cell_of_row w g _ _ _ (0, 0) hg, ← Array.getElem?_toList]
    rw [hcs1, List.getElem?_drop, ← ht] at hj
    by_cases h : k * 4 + j < ps.length * 4
    · rwa [List.getElem?_take_of_lt h] at hj
    · rw [List.getElem?_take_eq_none (by omega)] at hj; cases hj
  have hone : ∀ u ∈ cs1, u.oneCell' = true := fun u hu => rowP_one ps u (by rw [hcs1] at hu; exact List.mem_of_mem_drop hu)
  have hmin1 : Nat.min (ps.length + 1 - k) (ps.length + 1 - (k + 1)) = ps.length - k := by
    show min _ _ = _
    omega
  have hmin2 : Nat.min 1 (ps.length + 1 - k) = 1 := by
    show min _ _ = _
    omega
  obtain ⟨q, hq⟩ : ∃ q : Nat, ps.length - k = q := ⟨_, rfl⟩
  have hqe : ps.length + 1 - (k + 1) = ps.length - k := by omega
  have hcp1 : ∀ ty dc sc, (Builtin.copy_ #[23, 23] ty #[.slice (some ⟨g, (k + 1) * 4, none⟩) (ps.length - k) dc, .slice (some ⟨g, k * 4, none⟩) (ps.length + 1 - k) sc]).run Tryz.prog w.drew = .ok (goInt q) (w.drew.setRow g L1.toArray) := fun ty dc sc => by
    have := run_copy_k (P := Tryz.prog) w.drew 23 23 ty 43 4 g ((k + 1) * 4) (ps.length + 1 - (k + 1)) dc ⟨g, k * 4, none⟩ (ps.length + 1 - k) sc cur _ cs1 Tryz.underlying23 Tryz.sizePl4 hg (by rw [hd, hmin1]) (fun j u hj => by rw [Addr.add_lit]; exact hcell j u hj) (by rw [hd, hcs]; omega) hone
    rw [hmin1, ← hL1, hqe, hq] at this
    rw [hq]
    exact this
  have hh1 : (w.drew.setRow g L1.toArray).heap[g]? = some (.cells L1.toArray 43 (0, 0)) := setRow_heap w.drew g cur _ _ _ hg
  have hv1 : (w.drew.setRow g L1.toArray).heap[vb]? = some (.cells #[.int .i64 x.2.u, .int .i64 x.2.s, .int .i64 x.2.c, rpV x] 43 (0, 0)) := (setRow_block hne).trans hv
  have hcp2 : ∀ ty dc, (Builtin.copy_ #[23, 23] ty #[.slice (some ⟨g, k * 4, none⟩) (ps.length + 1 - k) dc, .slice (some ⟨vb, 0, none⟩) 1 1]).run Tryz.prog (w.drew.setRow g L1.toArray) = .ok (goInt 1) ((w.drew.setRow g L1.toArray).setRow g L2.toArray) := fun ty dc => by
    have := run_copy_k (P := Tryz.prog) (w.drew.setRow g L1.toArray) 23 23 ty 43 4 g (k * 4) (ps.length + 1 - k) dc ⟨vb, 0, none⟩ 1 1 L1.toArray _ (rpCells x) Tryz.underlying23 Tryz.sizePl4 hh1 (by rw [hmin2]; rfl)
      (fun j u hj => by rw [Addr.add_lit, Nat.zero_add, cell_of_row _ vb j _ _ (0, 0) hv1]; simpa [rpCells] using hj) (by simp [hl1, rpCells]; omega) (rp_one x)
    rw [hmin2, List.toList_toArray, ← hL2] at this
    exact this
  have HEND : Hid (RetMp base 43 (.slice (some ⟨g, 0, none⟩) ps.length c) (ps.take k ++ [x] ++ ps.drop k) w (.returned (.slice (some ⟨g, 0, none⟩) (ps.length + 1) c)) ((w.drew.setRow g L1.toArray).setRow g L2.toArray)) := by
    refine ⟨_, rfl, ⟨by rw [rowP_length], .inr ⟨g, c, L2.toArray, by rw [HFL.out], hbg, setRow_heap _ g L1.toArray _ _ _ hh1, by rw [HFL.out]; exact hc, hcm, by simpa using hl2, by rw [HFL.out, List.toList_toArray]; exact HFIN.out⟩⟩,
      apart_setRow (apart_setRow (Apart.refl _ w).drew1 rfl) rfl, fun x hx => .inl hx⟩
  generalize hn : ps.length = n at *
  clear hq hqe HFIN HFL hcell hone hmin1 hmin2 hd hcl hl1 hl2 hSl hcs1 hL1 hL2 hh1 hv1 ht hn hcs hg hv
  have hz1 : ¬ ((k : Int) = (n : Int)) := by omega
  have mixed : Tryz.prog.follows .mixedOrders = true := by kernel_rfl
  have hw1 : IntKind.i64.wrap ((k : Int) + 1) = (k : Int) + 1 := by rw [IntKind.wrap_i64]; omega
  have hw2 : IntKind.i64.wrap ((n : Int) + 1) = (n : Int) + 1 := by rw [IntKind.wrap_i64]; omega
  have hcz : c ≤ 9223372036854775807 := by unfold maxLen at hcm; omega
  have hb1 : (0 : Int) ≤ (k : Int) + 1 := by omega
  have hin : k ≤ n := by omega
  have htn : ((k : Int) + 1).toNat = k + 1 := by omega
  have htn2 : ((n : Int) + 1).toNat = n + 1 := by omega
  have hb2 : ¬ (c = k + 1) := by omega
  have hb4 : ¬ (c = k) := by omega
  have hb5 : (k : Int) ≤ (n : Int) + 1 := by omega
  go_enter Tryz.func53, Tryz.ntmps53
  go_wp2_with (simp only [hov])
  go_region_law_o (refine step_copy_runI rfl _ _ 23 23 rfl _ _ (by simp [Act.eval, Act.put]) (by simp [Act.eval, Act.put]) (hcp1 _ _ _) ?_)
  go_wp2_with (at_builtin; refine wpList_copy_runI _ rfl _ _ 23 23 rfl _ _ rfl rfl (hcp2 _ _) ?_)
  go_ret
  exact HEND.out

theorem zeroCells_length (n : Nat) : (Builtin.zeroCells #[.int .i64 0, .int .i64 0, .int .i64 0, .slice none 0 0] n).size = n * 4 := by simp [Builtin.zeroCells]

set_option maxHeartbeats 4000000 in
set_option maxRecDepth 100000 in
/-- There is no room: a new row. -/
theorem insert_grow (base : Nat) (g c : Nat) (ps : List Rp) (k : Nat) (x : Rp) (vb : Nat) (w : World) (hat : ∀ j u, (rowP ps)[j]? = some u → w.cell? ⟨g, j, none⟩ = some u)
    (hk : k < ps.length) (hn : ps.length ≤ c) (hc : c < ps.length + 1) (hl : ps.length ≤ 1000) (hbase : base ≤ w.heap.size) (hgl : g < w.heap.size)
    (hv : w.heap[vb]? = some (.cells #[.int .i64 x.2.u, .int .i64 x.2.s, .int .i64 x.2.c, rpV x] 43 (0, 0))) :
    Calls Tryz.prog 53 #[.slice (some ⟨g, 0, none⟩) ps.length c, .int .i64 k, .slice (some ⟨vb, 0, none⟩) 1 1] w (RetMp base 43 (.slice (some ⟨g, 0, none⟩) ps.length c) (ps.take k ++ [x] ++ ps.drop k) w) := by
  obtain ⟨i0, hi, hz0, hz1, hz2⟩ := info_parts Tryz.infoPl
  have hSl := rowP_length ps
  have hvl : vb < w.heap.size := by
    rcases Nat.lt_or_ge vb w.heap.size with h | h
    · exact h
    · rw [Array.getElem?_eq_none h] at hv; cases hv
  obtain ⟨cs1, hcs1⟩ : ∃ l, l = (rowP ps).drop (k * 4) := ⟨_, rfl⟩
  have hd : cs1.length = (ps.length - k) * 4 := by rw [hcs1, List.length_drop, hSl]; omega
  have hold : (Builtin.firstCells i0.size k (.slice (some ⟨g, 0, none⟩) k c)).run Tryz.prog w.drew = .ok ((rowP ps).take (k * 4)).toArray w.drew := by
    rw [hz1]
    exact run_firstCells_some (w := w.drew) 4 k ⟨g, 0, none⟩ k c _ (by rw [List.length_take, hSl]; omega) (fun j u hj => by
      rw [Addr.add_lit, Nat.zero_add]
      rw [List.getElem?_take] at hj
      split at hj
      · exact hat j u hj
      · cases hj)
  obtain ⟨G, hG⟩ : ∃ G, G = grownCap w (ps.length + 1) c 43 := ⟨_, rfl⟩
  have hGn : ps.length + 1 ≤ G := by rw [hG]; exact grownCap_ge w _ _ _
  have hGm : G ≤ maxLen := by rw [hG]; exact grownCap_le_maxLen w (ps.length + 1) c 43 (by unfold maxLen; omega)
  obtain ⟨ROW, hROW⟩ : ∃ ROW : Array Value, ROW = ((rowP ps).take (k * 4)).toArray ++ Builtin.zeroCells (Value.agg #[.int .i64 0, .int .i64 0, .int .i64 0, .slice none 0 0]).cells (ps.length + 1 - k) ++ Builtin.zeroCells (Value.agg #[.int .i64 0, .int .i64 0, .int .i64 0, .slice none 0 0]).cells (G - (ps.length + 1)) := ⟨_, rfl⟩
  have hRs : ROW.size = G * 4 := by
    rw [hROW, Array.size_append, Array.size_append]
    show _ + (Builtin.zeroCells #[.int .i64 0, .int .i64 0, .int .i64 0, .slice none 0 0] _).size + (Builtin.zeroCells #[.int .i64 0, .int .i64 0, .int .i64 0, .slice none 0 0] _).size = _
    rw [zeroCells_length, zeroCells_length, List.size_toArray, List.length_take, hSl]
    omega
  have hRt : ROW.toList.take (k * 4) = (rowP ps).take (k * 4) := by
    rw [hROW, Array.toList_append, Array.toList_append, List.append_assoc, List.take_append_of_le_length (by simp [hSl]; omega), List.toList_toArray, List.take_take, Nat.min_self]
  have hrz : ∀ ty, (Builtin.append_ #[23, 3] ty #[.slice (some ⟨g, 0, none⟩) k c, .int .i64 ((ps.length : Int) + 1 - (k : Int))]).run Tryz.prog w =
      .ok (.slice (some ⟨w.heap.size, 0, none⟩) (ps.length + 1) G) (w.drew.alloc (.cells ROW 43)) := fun ty => by
    have h := Lib.run_append_grow_zeros w 23 3 ty 43 i0 _ .i64 .i64 Tryz.underlying23 Tryz.underlying3 hi hz0 (some ⟨g, 0, none⟩) k c ((rowP ps).take (k * 4)) hold (ps.length + 1 - k) (by omega) (by omega) (by omega) (by omega) (by rw [hz2]; omega) (by
      rw [hz2, show k + (ps.length + 1 - k) = ps.length + 1 by omega]; exact growslice_fits (by omega) (by omega))
    rw [show k + (ps.length + 1 - k) = ps.length + 1 by omega, ← hG, ← hROW] at h
    rw [show (ps.length : Int) + 1 - (k : Int) = ((ps.length + 1 - k : Nat) : Int) by omega]
    exact h
  obtain ⟨N, hN⟩ : ∃ N, N = w.heap.size := ⟨_, rfl⟩
  obtain ⟨L1, hL1⟩ : ∃ l, l = splice ROW.toList (k * 4) (rpCells x) := ⟨_, rfl⟩
  have hRl : ROW.toList.length = G * 4 := by rw [Array.length_toList]; exact hRs
  have hl1 : L1.length = G * 4 := by rw [hL1, splice_length (by simp [rpCells]; omega), hRl]
  obtain ⟨L2, hL2⟩ : ∃ l, l = splice L1 ((k + 1) * 4) cs1 := ⟨_, rfl⟩
  have hl2 : L2.length = G * 4 := by rw [hL2, splice_length (by rw [hd, hl1]; omega), hl1]
  have HFIN : Hid (L2.take ((ps.length + 1) * 4) = rowP (ps.take k ++ [x] ++ ps.drop k)) := by
    show _ = _
    rw [ins_cells, hL2, hL1, hcs1]
    exact ins_grow _ rfl hSl hk (by omega) hRt
  have HFL : Hid ((ps.take k ++ [x] ++ ps.drop k).length = ps.length + 1) := by
    show _ = _
    simp
    omega
  have hone : ∀ u ∈ cs1, u.oneCell' = true := fun u hu => rowP_one ps u (by rw [hcs1] at hu; exact List.mem_of_mem_drop hu)
  obtain ⟨W1, hW1⟩ : ∃ W1, W1 = w.drew.alloc (.cells ROW 43) := ⟨_, rfl⟩
  have hh0 : W1.heap[N]? = some (.cells ROW 43 (0, 0)) := by rw [hW1, hN]; exact heap_alloc_new w.drew _
  have hv0 : W1.heap[vb]? = some (.cells #[.int .i64 x.2.u, .int .i64 x.2.s, .int .i64 x.2.c, rpV x] 43 (0, 0)) := by
    rw [hW1]
    exact (((Below.refl w.drew.heap.size w.drew).alloc (Nat.le_refl _) (.cells ROW 43)).block vb hvl).trans hv
  have hb0 : Below w.heap.size w W1 := by rw [hW1]; exact (Below.refl w.heap.size w).drew.alloc (Nat.le_refl _) _
  have hmin1 : Nat.min 1 (ps.length + 1 - k) = 1 := by
    show min _ _ = _
    omega
  have hmin2 : Nat.min (ps.length - k) (ps.length + 1 - (k + 1)) = ps.length - k := by
    show min _ _ = _
    omega
  have hqe : ps.length + 1 - (k + 1) = ps.length - k := by omega
  obtain ⟨q, hq⟩ : ∃ q : Nat, ps.length - k = q := ⟨_, rfl⟩
  have hcpA : ∀ ty dc, (Builtin.copy_ #[23, 23] ty #[.slice (some ⟨N, k * 4, none⟩) (ps.length + 1 - k) dc, .slice (some ⟨vb, 0, none⟩) 1 1]).run Tryz.prog W1 = .ok (goInt 1) (W1.setRow N L1.toArray) := fun ty dc => by
    have := run_copy_k (P := Tryz.prog) W1 23 23 ty 43 4 N (k * 4) (ps.length + 1 - k) dc ⟨vb, 0, none⟩ 1 1 ROW _ (rpCells x) Tryz.underlying23 Tryz.sizePl4 hh0 (by rw [hmin1]; rfl)
      (fun j u hj => by rw [Addr.add_lit, Nat.zero_add, cell_of_row _ vb j _ _ (0, 0) hv0]; simpa [rpCells] using hj) (by simp [hRs, rpCells]; omega) (rp_one x)
    rw [hmin1, ← hL1] at this
    exact this
  have hh1 : (W1.setRow N L1.toArray).heap[N]? = some (.cells L1.toArray 43 (0, 0)) := setRow_heap W1 N ROW _ _ _ hh0
  have hb1 : Below w.heap.size w (W1.setRow N L1.toArray) := below_setRow hb0 (by omega)
  have hcpB : ∀ ty dc sc, (Builtin.copy_ #[23, 23] ty #[.slice (some ⟨N, (k + 1) * 4, none⟩) (ps.length - k) dc, .slice (some ⟨g, k * 4, none⟩) (ps.length - k) sc]).run Tryz.prog (W1.setRow N L1.toArray).drew = .ok (goInt q) ((W1.setRow N L1.toArray).drew.setRow N L2.toArray) := fun ty dc sc => by
    have := run_copy_k (P := Tryz.prog) (W1.setRow N L1.toArray).drew 23 23 ty 43 4 N ((k + 1) * 4) (ps.length + 1 - (k + 1)) dc ⟨g, k * 4, none⟩ (ps.length - k) sc L1.toArray _ cs1 Tryz.underlying23 Tryz.sizePl4 hh1 (by rw [hd, hmin2])
      (fun j u hj => by
        rw [Addr.add_lit]
        refine (hb1.cell (p := ⟨g, k * 4 + j, none⟩) hgl).trans ?_
        rw [hcs1, List.getElem?_drop] at hj
        exact hat _ _ hj) (by simp [hl1, hd]; omega) hone
    rw [hmin2, List.toList_toArray, ← hL2, hqe, hq] at this
    rw [hq]
    exact this
  have HEND : Hid (RetMp base 43 (.slice (some ⟨g, 0, none⟩) ps.length c) (ps.take k ++ [x] ++ ps.drop k) w (.returned (.slice (some ⟨N, 0, none⟩) (ps.length + 1) G)) ((W1.setRow N L1.toArray).drew.setRow N L2.toArray)) := by
    refine ⟨_, rfl, ⟨by rw [rowP_length], .inr ⟨N, G, L2.toArray, by rw [HFL.out], by omega, setRow_heap _ N L1.toArray _ _ _ hh1, by rw [HFL.out]; exact hGn, hGm, by simpa using hl2, by rw [HFL.out, List.toList_toArray]; exact HFIN.out⟩⟩,
      Apart.of_below (below_setRow hb1.drew (by omega)), fun x hx => .inr (by cases hx; show w.heap.size ≤ N; omega)⟩
  rw [← hN, ← hW1] at hrz
  generalize hnn : ps.length = n at *
  clear hq hqe HFIN HFL hone hmin1 hmin2 hd hl1 hl2 hRl hSl hcs1 hL1 hL2 hh0 hh1 hv0 hb0 hb1 hold hat hRt hRs hROW hG hnn hv hW1 hN hvl hgl
  have hz1 : ¬ ((k : Int) = (n : Int)) := by omega
  have hz3 : (c : Int) < (n : Int) + 1 := by omega
  have mixed : Tryz.prog.follows .mixedOrders = true := by kernel_rfl
  have hw1 : IntKind.i64.wrap ((k : Int) + 1) = (k : Int) + 1 := by rw [IntKind.wrap_i64]; omega
  have hw2 : IntKind.i64.wrap ((n : Int) + 1) = (n : Int) + 1 := by rw [IntKind.wrap_i64]; omega
  have hcz : G ≤ 9223372036854775807 := by unfold maxLen at hGm; omega
  have hb1 : (0 : Int) ≤ (k : Int) + 1 := by omega
  have hin : k ≤ n := by omega
  have htn : ((k : Int) + 1).toNat = k + 1 := by omega
  have hb2 : ¬ (G = k + 1) := by omega
  have hb4 : ¬ (G = k) := by omega
  have hb6 : ¬ (c = k) := by omega
  have hb5 : (k : Int) ≤ (n : Int) + 1 := by omega
  have hb7 : (k : Int) ≤ (n : Int) := by omega
  go_enter Tryz.func53, Tryz.ntmps53
  go_wp2_with (first
    | (at_builtin; refine Lib.wpList_append_run _ rfl _ _ _ _ rfl _ _ rfl rfl _ _ (hrz _) ?_)
    | (at_builtin; refine wpList_copy_runI _ rfl _ _ 23 23 rfl _ _ rfl rfl (hcpA _ _) ?_))
  go_region_law_o (refine step_copy_runI rfl _ _ 23 23 rfl _ _ (by simp [Act.eval, Act.put]) (by simp [Act.eval, Act.put]) (hcpB _ _ _) ?_)
  go_wp2
  go_ret
  exact HEND.out

/-- slices.Insert of one, wherever it goes. -/
theorem insert_any (base : Nat) (v : Value) (ps : List Rp) (k : Nat) (x : Rp) (vb : Nat) (w : World) (h : w.ownsRow base 43 4 v ps.length (rowP ps)) (hk : k ≤ ps.length) (hl : ps.length ≤ 1000) (hbase : base ≤ w.heap.size)
    (hv : w.heap[vb]? = some (.cells #[.int .i64 x.2.u, .int .i64 x.2.s, .int .i64 x.2.c, rpV x] 43 (0, 0))) (hne : v.ownBlock ≠ some vb) :
    Calls Tryz.prog 53 #[v, .int .i64 k, .slice (some ⟨vb, 0, none⟩) 1 1] w (RetMp base 43 v (ps.take k ++ [x] ++ ps.drop k) w) := by
  by_cases hkn : k = ps.length
  · subst hkn
    have := insert_end base v ps x vb w h hl hbase hv
    rwa [show ps.take ps.length ++ [x] ++ ps.drop ps.length = ps ++ [x] by simp]
  · obtain ⟨h1, h2⟩ := h
    rcases h2 with ⟨_, h0⟩ | ⟨g, cap, cur, rfl, hg, hh, hn, hc, hs, ht⟩
    · omega
    · have hgl : g < w.heap.size := (Array.getElem?_eq_some_iff.1 hh).1
      by_cases hr : ps.length + 1 ≤ cap
      · exact insert_shift base g cap cur ps k x vb w hh hg (by omega) hr hc hs ht hl hbase hv (fun e => hne (by rw [e]; rfl))
      · refine insert_grow base g cap ps k x vb w (fun j u hj => ?_) (by omega) hn (by omega) hl hbase hgl hv
        rw [cell_of_row w g j _ _ (0, 0) hh, ← Array.getElem?_toList]
        rw [← ht] at hj
        by_cases hjn : j < ps.length * 4
        · rwa [List.getElem?_take_of_lt hjn] at hj
        · rw [List.getElem?_take_eq_none (by omega)] at hj; cases hj
end Go.Proofs.YtiadnpipbocecaaGreat

/-
  Find of program and document.
  Conditions: the slice reads as places.
-/
set_option linter.unusedVariables false
namespace Go.Proofs.YtiadnpipbocecaaGreat
open Go.RowKit

/-- What Find answers: the place, or a zero one; its pieces in blocks of F. -/
def RetFind (F : Nat → Prop) (o : Option Pl) (w : World) (e : Ending) (w' : World) : Prop :=
  ∃ v, e = .returned (.tuple #[plA v (o.getD zeroPl), .bool o.isSome]) ∧ PcsIn F w' v (o.getD zeroPl).ps ∧ Below w.heap.size w w'
theorem PcsIn.setRow {F : Nat → Prop} {W : World} {v : Value} {ps : List Pc} (h : PcsIn F W v ps) {N : Nat} {cs : Array Value} (hn : ¬ F N ∨ W.heap.size ≤ N) : PcsIn F (W.setRow N cs) v ps :=
  h.keepF (by simp) fun b hb hF => setRow_other _ _ _ _ (by
    intro e
    subst e
    rcases hn with hn | hn
    · exact hn hF
    · omega)

set_option maxRecDepth 100000 in
set_option maxHeartbeats 4000000 in
theorem find_any (f : Int) (m : Nat) (v : Value) (l : List Pl) (u : Int) (w : World) (h : PlsAt w v l) (hl : l.length ≤ 1000) (hp : ∀ x ∈ l, x.ps.length ≤ 1000) :
    Calls Tryz.prog 46 #[planA f m v, .int .i64 u] w (RetFind (fun b => w.heap.size ≤ b) (findU l u) w) := by
  have HL := Lib.hid h
  have HPL := Lib.hid hp
  obtain ⟨A, cA, rfl, hlc, hcm⟩ := h.form
  obtain ⟨n, hn⟩ : ∃ n, l.length = n := ⟨_, rfl⟩
  rw [hn] at HL hlc hl ⊢
  have HN := Lib.hid hn
  obtain ⟨w1, P, hw1, hP, hPl, hb1, hbox⟩ := box_any w #[.int .i64 f, .int .u32 m, .slice A n cA] 25
  obtain ⟨w2, U, hw2, hU, hUl, hb2, hub⟩ := box_any w1 #[.int .i64 u] 3
  obtain ⟨w3, R, hw3, hR, hRl, hb3, hrb⟩ := box_any w2 #[.int .i64 0, .int .i64 0, .int .i64 0, .slice none 0 0] 43
  have HB2 := Lib.hid (hb1.trans (hb2.mono hb1.size))
  have HB3 := Lib.hid (HB2.out.trans (hb3.mono HB2.out.size))
  have HPB := Lib.hid (keep_block (keep_block hbox hb2) hb3)
  have HRB := Lib.hid hrb
  have hU3 : U < w3.heap.size := Nat.lt_of_lt_of_le hUl hb3.size
  have hu0 : w3.cell? ⟨U, 0, none⟩ = some (.int .i64 u) := by
    have e := keep_block hub hb3
    simp [World.cell?, e]
  have HI := Lib.hid (indexPl_any (.slice A n cA) l u U w3 (HL.out.keep HB3.out) hU3 hu0)
  have HLT := Lib.hid (show w.heap.size ≤ P ∧ P < U ∧ U < R ∧ R < w3.heap.size by have := hb1.size; have := hb2.size; omega)
  obtain ⟨p0, p1, p2⟩ := three_heads HPB.out
  clear h hp hn hb1 hb2 hb3 hbox hub hrb
  unfold planA
  go_enter Tryz.func46, Tryz.ntmps46
  go_wp2_with fail
  refine HI.out.mono ?_
  rintro e w4 ⟨r, rfl, hr, hb4⟩
  have HB4 := Lib.hid (HB3.out.trans (hb4.mono HB3.out.size))
  have HP4 := Lib.hid (keep_block HPB.out hb4)
  have HR4 := Lib.hid (keep_block HRB.out hb4)
  clear hb4 p0 p1 p2 hw1 hP hw2 hU hw3 hu0
  rcases hr with ⟨rfl, hnone⟩ | ⟨k, x, rfl, hx, hfound⟩
  · have HE := Lib.hid hnone
    clear hnone
    go_wp2_with (refine wpList_store_row rfl _ _ _ rfl R #[.int .i64 0, .int .i64 0, .int .i64 0, .slice none 0 0] rfl rfl 43 _ HR4.out (Tryz.sizePl _ _ _ _) rfl (one4 _ _ _ _ _ _) ?_)
    refine bodyPost_ret (v := .tuple #[.agg #[.int .i64 0, .int .i64 0, .int .i64 0, .slice none 0 0], .bool false]) (results_row_tmp rfl _ _ R _ _ _ _ rfl (setRow_heap _ _ _ _ _ _ HR4.out) Tryz.underlying43 rfl (Tryz.sizePl _ _ _ _) _ rfl) rfl ?_
    rw [HE.out]
    exact ⟨_, rfl, PcsIn.nil _ _, below_row16 HB4.out (by have := HLT.out; omega) _⟩
  · have HE := Lib.hid hfound
    have HX := Lib.hid hx
    have hkn : k < n := by have := (List.getElem?_eq_some_iff.1 hx).1; have := HN.out; omega
    have hknz : (k : Int) < (n : Int) := by omega
    have hk0 : (0 : Int) ≤ (k : Int) := by omega
    have hkd : decide ((k : Int) < 0) = false := decide_eq_false (by omega)
    obtain ⟨b, off, B, d, hA, hbl, _, ⟨c0, c1, c2, c3⟩, hps⟩ := (HL.out.keep HB4.out).at_ hx
    subst hA
    simp only at c0 c1 c2 c3
    have HC := Lib.hid (clonePl_any (.slice B x.ps.length d) x w4 hps (HPL.out x (List.mem_of_getElem? hx)))
    unfold plA at HC
    obtain ⟨r0, r1, r2⟩ := three_heads HP4.out
    clear hx hfound hps
    go_wp2_with fail
    refine HC.out.mono ?_
    rintro e w5 ⟨v', rfl, hps5, hb5⟩
    have HPS := Lib.hid hps5
    have HB5 := Lib.hid (HB4.out.trans (hb5.mono HB4.out.size))
    have HR5 := Lib.hid (keep_block HR4.out hb5)
    have HS4 := Lib.hid (show R < w4.heap.size from heap_lt HR4.out)
    obtain ⟨A', d', hv'⟩ := hps5.form
    subst hv'
    clear hb5 hps5 r0 r1 r2
    unfold plA
    go_wp2_with (refine wpList_store_row rfl _ _ _ rfl R #[.int .i64 x.u, .int .i64 x.s, .int .i64 x.c, .slice A' x.ps.length d'] rfl rfl 43 _ HR5.out (Tryz.sizePl _ _ _ _) rfl (one4 _ _ _ _ _ _) ?_)
    refine bodyPost_ret (v := .tuple #[.agg #[.int .i64 x.u, .int .i64 x.s, .int .i64 x.c, .slice A' x.ps.length d'], .bool true]) (results_row_tmp rfl _ _ R _ _ _ _ rfl (setRow_heap _ _ _ _ _ _ HR5.out) Tryz.underlying43 rfl (Tryz.sizePl _ _ _ _) _ rfl) rfl ?_
    rw [HE.out]
    refine ⟨_, rfl, ?_, below_row16 HB5.out (by have := HLT.out; omega) _⟩
    exact (HPS.out.setRow (.inl (by have := HS4.out; omega))).mono fun b _ hF => Nat.le_trans HB4.out.size hF

set_option maxRecDepth 100000 in
set_option maxHeartbeats 4000000 in
theorem refFind_any (f : Int) (m : Nat) (v : Value) (l : List Pl) (u : Int) (w : World) (h : PlsAt w v l) (hl : l.length ≤ 1000) :
    Calls Tryz.prog 14 #[planA f m v, .int .i64 u] w (RetFind Any (findU l u) w) := by
  have HL := Lib.hid h
  obtain ⟨A, cA, rfl, hlc, hcm⟩ := h.form
  obtain ⟨n, hn⟩ : ∃ n, l.length = n := ⟨_, rfl⟩
  rw [hn] at HL hlc hl ⊢
  have HN := Lib.hid hn
  obtain ⟨w1, P, hw1, hP, hPl, hb1, hbox⟩ := box_any w #[.int .i64 f, .int .u32 m, .slice A n cA] 25
  obtain ⟨w3, R, hw3, hR, hRl, hb3, hrb⟩ := box_any w1 #[.int .i64 0, .int .i64 0, .int .i64 0, .slice none 0 0] 43
  have HB3 := Lib.hid (hb1.trans (hb3.mono hb1.size))
  have HPB := Lib.hid (keep_block hbox hb3)
  have HRB := Lib.hid hrb
  have HLT := Lib.hid (show w.heap.size ≤ P ∧ P < R ∧ R < w3.heap.size by have := hb1.size; omega)
  obtain ⟨p0, p1, p2⟩ := three_heads HPB.out
  clear h hn hb1 hb3 hbox hrb
  unfold planA
  go_enter Tryz.func14, Tryz.ntmps14
  go_wp2_with fail
  clear hw1 hP hw3 hR
  go_loopg [6] n (fun gg s6 wr => ∃ k : Nat, k ≤ n ∧ gg = n - k ∧ s6 = .int .i64 k ∧ Hid (findU (l.take k) u = none) ∧ w3 = wr)
  case atStart => exact ⟨0, Nat.zero_le _, by omega, rfl, rfl, rfl⟩
  case round =>
    obtain ⟨k, hk, hg, rfl, HF, rfl⟩ := hrel
    have HG := Lib.hid hg
    clear hg
    by_cases hlt : k < n
    · have hltz : (k : Int) < (n : Int) := by omega
      have hk0 : (0 : Int) ≤ (k : Int) := by omega
      obtain ⟨x, hx⟩ := exP_at (xs := l) (k := k) (by rw [HN.out]; exact hlt)
      obtain ⟨b, off, B, d, hA, hbl, _, hpl, hps⟩ := HL.out.at_ hx
      obtain ⟨c0, c1, c2, c3⟩ := hpl.keep (HB3.out.block b hbl)
      subst hA
      simp only at c0 c1 c2 c3
      have HX := Lib.hid hx
      have HPS := Lib.hid ((hps.mono (G := fun b => b < w.heap.size) fun b hb _ => hb).keep HB3.out)
      clear hx hps hpl
      by_cases hu : x.u = u
      · have hu1 : (x.u == u) = true := by simpa using hu
        have HE := Lib.hid (findU_hit HF HX.out hu)
        clear hu
        go_wp2_with (refine wpList_store_row rfl _ _ _ rfl R #[.int .i64 x.u, .int .i64 x.s, .int .i64 x.c, .slice B x.ps.length d] rfl rfl 43 _ HRB.out (Tryz.sizePl _ _ _ _) rfl (one4 _ _ _ _ _ _) ?_)
        refine bodyPost_ret (v := .tuple #[.agg #[.int .i64 x.u, .int .i64 x.s, .int .i64 x.c, .slice B x.ps.length d], .bool true]) (results_row_tmp rfl _ _ R _ _ _ _ rfl (setRow_heap _ _ _ _ _ _ HRB.out) Tryz.underlying43 rfl (Tryz.sizePl _ _ _ _) _ rfl) rfl ?_
        rw [HE.out]
        refine ⟨_, rfl, ?_, below_row16 HB3.out (by have := HLT.out; omega) _⟩
        exact (HPS.out.setRow (.inl (by have := HLT.out; omega))).any
      · have hu1 : (x.u == u) = false := by simpa using hu
        have HE := Lib.hid (findU_miss HF HX.out hu)
        clear hu
        go_wp2_with fail
        go_roundg (n - (k + 1))
        case measure => have := HG.out; omega
        case rel => exact ⟨k + 1, by omega, rfl, by go_num, HE.out, rfl⟩
    · have hltz : ¬ (k : Int) < (n : Int) := by omega
      have HE : Hid (findU l u = none) := by
        have h : findU (l.take k) u = none := HF
        rwa [List.take_of_length_le (by rw [HN.out]; omega)] at h
      go_wp2_with (refine wpList_store_row rfl _ _ _ rfl R #[.int .i64 0, .int .i64 0, .int .i64 0, .slice none 0 0] rfl rfl 43 _ HRB.out (Tryz.sizePl _ _ _ _) rfl (one4 _ _ _ _ _ _) ?_)
      refine bodyPost_ret (v := .tuple #[.agg #[.int .i64 0, .int .i64 0, .int .i64 0, .slice none 0 0], .bool false]) (results_row_tmp rfl _ _ R _ _ _ _ rfl (setRow_heap _ _ _ _ _ _ HRB.out) Tryz.underlying43 rfl (Tryz.sizePl _ _ _ _) _ rfl) rfl ?_
      rw [HE.out]
      exact ⟨_, rfl, PcsIn.nil _ _, below_row16 HB3.out (by have := HLT.out; omega) _⟩
end Go.Proofs.YtiadnpipbocecaaGreat
