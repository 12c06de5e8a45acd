/-
  Drop of program and document.
  Conditions: the slice reads as places.
-/
import Derived.Test.YtpfpojehcjmfnaaGreatT04
import Derived.Laws.CopyRow
import Derived.Shelf.Spec.SlicesInsertGrow
import Derived.Test.YtpfpojehcjmfnaaGreatT03

/-
  slices.Insert of one place into a row of the caller's own.
  Conditions: the row is of the caller's own; the one that is put lies in another block.
-/
set_option linter.unusedVariables false
namespace Go.Proofs.YtpfpojehcjmfnaaGreat
open Go.RowKit Go.Proofs

def Grew (w : World) (mv mv' : Value) : Prop := ∀ k, mv'.ownBlock = some k → mv.ownBlock = some k ∨ w.heap.size ≤ k
/-- What a call answers that changes a row of its caller's. -/
def RetMp (base e : Nat) (v : Value) (l : List Rp) (w : World) (en : Ending) (w' : World) : Prop := ∃ v', en = .returned v' ∧ w'.ownsRow base e 4 v' l.length (rowP l) ∧ Apart (fun k => v.ownBlock = some k) w w' ∧ Grew w v v'
theorem apart_grown0 {w w' : World} {row : Option Nat} (hg : w.grownBy w' row) : Apart (fun k => row = some k) w w' := ⟨hg.os, hg.tape, hg.output, hg.size, fun k hk hn => hg.block k hk (fun e => hn e.symm)⟩
theorem rowP_snoc (l : List Rp) (x : Rp) : rowP (l ++ [x]) = rowP l ++ rpCells x := by rw [rowP_append]; simp [rowP]
theorem rp_one (x : Rp) : ∀ u ∈ rpCells x, u.oneCell' = true := by
  intro u hu
  simp [rpCells] at hu
  rcases hu with rfl | rfl | rfl | rfl <;> rfl

def splice (l : List Value) (o : Nat) (cs : List Value) : List Value := l.take o ++ cs ++ l.drop (o + cs.length)
theorem splice_length {l cs : List Value} {o : Nat} (h : o + cs.length ≤ l.length) : (splice l o cs).length = l.length := by simp [splice]; omega
theorem splice_get {l cs : List Value} {o : Nat} (h : o + cs.length ≤ l.length) (j : Nat) : (splice l o cs)[j]? = if o ≤ j ∧ j < o + cs.length then cs[j - o]? else l[j]? := by
  unfold splice
  rw [List.append_assoc]
  by_cases h1 : j < o
  · rw [if_neg (by omega), List.getElem?_append_left (by rw [List.length_take]; omega), List.getElem?_take_of_lt h1]
  · rw [List.getElem?_append_right (by rw [List.length_take]; omega), List.length_take, Nat.min_eq_left (by omega)]
    by_cases h2 : j < o + cs.length
    · rw [if_pos ⟨by omega, h2⟩, List.getElem?_append_left (by omega)]
    · rw [if_neg (by omega), List.getElem?_append_right (by omega), List.getElem?_drop]
      congr 1
      omega

theorem run_copy_k {P : Program} (w : World) (dT sT ty elem : TypeId) (k g o dLen dCap : Nat) (a : Addr) (sLen sCap : Nat) (cur : Array Value) (t : TypeId) (cs : List Value)
    (hu : P.underlying dT = some (.slice elem)) (hs : (P.info? elem).map (·.size) = some k)
    (hg : w.heap[g]? = some (.cells cur t (0, 0))) (hn : cs.length = Nat.min sLen dLen * k)
    (hsrc : ∀ j v, cs[j]? = some v → w.cell? (a.add j) = some v) (hfit : o + cs.length ≤ cur.size) (h1 : ∀ v ∈ cs, v.oneCell' = true) :
    (Builtin.copy_ #[dT, sT] ty #[.slice (some ⟨g, o, none⟩) dLen dCap, .slice (some a) sLen sCap]).run P w =
      .ok (goInt (Nat.min sLen dLen)) (w.setRow g (splice cur.toList o cs).toArray) := by
  have hl := run_firstCells_some (P := P) (w := w) k (Nat.min sLen dLen) a sLen sCap cs hn hsrc
  have hst := run_storeCells_at P g o t cs 0 cur w hg (by simpa using hfit) h1
  cases hq : P.info? elem with
  | none => simp [hq] at hs
  | some i =>
    have hi : i.size = k := by simpa [hq] using hs
    simp only [Nat.add_zero] at hst
    simp [Builtin.copy_, run_underlying hu, Builtin.lenOf, sizeOf, typeInfo, hq, hi, hl, hst, splice]

/-- The row with one more. -/
theorem ins_cells (ps : List Rp) (k : Nat) (x : Rp) : rowP (ps.take k ++ [x] ++ ps.drop k) = (rowP ps).take (k * 4) ++ rpCells x ++ (rowP ps).drop (k * 4) := by
  rw [rowP_append, rowP_append, rowP_take, rowP_drop]
  simp [rowP]
theorem ins_get {S : List Value} {n k : Nat} (us : List Value) (hus : us.length = 4) (hS : S.length = n * 4) (hk : k ≤ n) (j : Nat) :
    (S.take (k * 4) ++ us ++ S.drop (k * 4))[j]? = if j < k * 4 then S[j]? else if j < k * 4 + 4 then us[j - k * 4]? else S[j - 4]? := by
  rw [List.append_assoc]
  by_cases h1 : j < k * 4
  · rw [if_pos h1, List.getElem?_append_left (by rw [List.length_take]; omega), List.getElem?_take_of_lt h1]
  · rw [if_neg h1, List.getElem?_append_right (by rw [List.length_take]; omega), List.length_take, Nat.min_eq_left (by omega)]
    by_cases h2 : j < k * 4 + 4
    · rw [if_pos h2, List.getElem?_append_left (by omega)]
    · rw [if_neg h2, List.getElem?_append_right (by omega), List.getElem?_drop]
      congr 1
      omega
theorem ins_shift4 {l S : List Value} {n k : Nat} (us : List Value) (hus : us.length = 4) (hS : S.length = n * 4) (hk : k < n) (hl : (n + 1) * 4 ≤ l.length) (hp : l.take (n * 4) = S) :
    (splice (splice l ((k + 1) * 4) (S.drop (k * 4))) (k * 4) us).take ((n + 1) * 4) = S.take (k * 4) ++ us ++ S.drop (k * 4) := by
  have hd : (S.drop (k * 4)).length = n * 4 - k * 4 := by rw [List.length_drop, hS]
  apply List.ext_getElem?
  intro j
  rw [ins_get us hus hS (by omega)]
  by_cases hj : j < (n + 1) * 4
  · rw [List.getElem?_take_of_lt hj, splice_get (by rw [splice_length (by rw [hd]; omega)]; omega), splice_get (by rw [hd]; omega)]
    simp only [hus]
    by_cases h1 : j < k * 4
    · rw [if_neg (by omega), if_neg (by omega), if_pos h1, ← hp, List.getElem?_take_of_lt (by omega)]
    · by_cases h2 : j < k * 4 + 4
      · rw [if_pos (by omega), if_neg h1, if_pos h2]
      · rw [if_neg (by omega), if_pos (by rw [hd]; omega), if_neg h1, if_neg h2, List.getElem?_drop]
        congr 1
        omega
  · rw [List.getElem?_take_eq_none (by omega), if_neg (by omega), if_neg (by omega), List.getElem?_eq_none (by omega)]
theorem ins_grow {l S : List Value} {n k : Nat} (us : List Value) (hus : us.length = 4) (hS : S.length = n * 4) (hk : k < n) (hl : (n + 1) * 4 ≤ l.length) (hp : l.take (k * 4) = S.take (k * 4)) :
    (splice (splice l (k * 4) us) ((k + 1) * 4) (S.drop (k * 4))).take ((n + 1) * 4) = S.take (k * 4) ++ us ++ S.drop (k * 4) := by
  have hd : (S.drop (k * 4)).length = n * 4 - k * 4 := by rw [List.length_drop, hS]
  apply List.ext_getElem?
  intro j
  rw [ins_get us hus hS (by omega)]
  by_cases hj : j < (n + 1) * 4
  · rw [List.getElem?_take_of_lt hj, splice_get (by rw [splice_length (by omega), hd]; omega), splice_get (by omega)]
    simp only [hus]
    by_cases h1 : j < k * 4
    · rw [if_neg (by omega), if_neg (by omega), if_pos h1, ← List.getElem?_take_of_lt (l := l) h1, hp, List.getElem?_take_of_lt h1]
    · by_cases h2 : j < k * 4 + 4
      · rw [if_neg (by omega), if_pos (by omega), if_neg h1, if_pos h2]
      · rw [if_pos (by rw [hd]; omega), if_neg h1, if_neg h2, List.getElem?_drop]
        congr 1
        omega
  · rw [List.getElem?_take_eq_none (by omega), if_neg (by omega), if_neg (by omega), List.getElem?_eq_none (by omega)]

theorem setRow_block {w : World} {g k : Nat} {cs : Array Value} (h : k ≠ g) : (w.setRow g cs).heap[k]? = w.heap[k]? := by
  unfold World.setRow
  show (w.heap.modify g _)[k]? = _
  rw [Array.getElem?_modify, if_neg (fun e => h e.symm)]
theorem setRow_size {w : World} {g : Nat} {cs : Array Value} : (w.setRow g cs).heap.size = w.heap.size := by simp [World.setRow]
theorem below_setRow {B : Nat} {a w : World} {g : Nat} {cs : Array Value} (h : Below B a w) (hg : B ≤ g) : Below B a (w.setRow g cs) :=
  h.trans ⟨rfl, rfl, rfl, by rw [setRow_size]; exact Nat.le_refl _, fun k hk => setRow_block (by omega)⟩
theorem Apart.drew1 {F : Nat → Prop} {a w : World} (h : Apart F a w) : Apart F a w.drew := ⟨h.os, h.tape, h.output, h.size, h.block⟩
theorem apart_setRow {F : Nat → Prop} {a w : World} {g : Nat} {cs : Array Value} (h : Apart F a w) (hg : F g) : Apart F a (w.setRow g cs) :=
  h.trans (F' := fun k => k = g) ⟨rfl, rfl, rfl, by rw [setRow_size]; exact Nat.le_refl _, fun k hk hn => setRow_block hn⟩ (fun x hx e => by subst e; exact hg)
theorem Tryz.sizePl4 : (Tryz.prog.info? 48).map (·.size) = some 4 := by
  obtain ⟨i0, hi0, h0, h1, h2⟩ := info_parts Tryz.infoPl
  rw [hi0]; simp [h1]
theorem overlaps_no (w : World) (vb g o lb cb la ca : Nat) (cur one : Array Value) (tA tB : Nat) (hne : vb ≠ g) (hg : w.heap[g]? = some (.cells cur tA (0, 0))) (hv : w.heap[vb]? = some (.cells one tB (0, 0))) (hc : cur.size ≠ 0) :
    (callFunc 169 #[.slice (some ⟨vb, 0, none⟩) la ca, .slice (some ⟨g, o, none⟩) lb cb]).run Tryz.prog w = .ok (.value (.bool false)) w := by
  rw [run_callFunc_extern Tryz.func169 (by kernel_rfl) (by kernel_rfl) (by kernel_rfl) (e := Extern.SlicesOverlaps.overlaps #[24, 24] #[4]) (by kernel_rfl),
    Lib.run_overlaps_apart w 24 4 48 Tryz.underlying24 4 Tryz.sizeOf48 ⟨vb, 0, none⟩ ⟨g, o, none⟩ la ca lb cb hne tB tA one.size cur.size (by simp [World.shape?, hv]) (by simp [World.shape?, hg]) hc (by simp [World.frozen?, hv]) (by simp [World.frozen?, hv])]
  rfl

theorem own_block_cap (A : Option Addr) (n c n' c' : Nat) : (Value.slice A n c).ownBlock = (Value.slice A n' c').ownBlock := by cases A <;> rfl
set_option maxRecDepth 100000 in
/-- At the end. -/
theorem insert_end (base : Nat) (v : Value) (ps : List Rp) (x : Rp) (vb : Nat) (w : World) (h : w.ownsRow base 48 4 v ps.length (rowP ps)) (hl : ps.length ≤ 1000) (hbase : base ≤ w.heap.size)
    (hv : w.heap[vb]? = some (.cells #[.int .i64 x.2.u, .int .i64 x.2.s, .int .i64 x.2.c, rpV x] 48 (0, 0))) :
    Calls Tryz.prog 130 #[v, .int .i64 ps.length, .slice (some ⟨vb, 0, none⟩) 1 1] w (RetMp base 48 v (ps ++ [x]) w) := by
  obtain ⟨i0, hi, hz0, hz1, hz2⟩ := info_parts Tryz.infoPl
  have HO := Lib.hid h
  have HLEN := Lib.hid (show (ps ++ [x]).length = ps.length + 1 by simp)
  have HSN := Lib.hid (rowP_snoc ps x)
  have hnews : Hid (∀ j u, (rpCells x)[j]? = some u → w.cell? ((⟨vb, 0, none⟩ : Addr).add j) = some u) := fun j u hj => by
    rw [Addr.add_lit, Nat.zero_add, cell_of_row w vb j _ _ (0, 0) hv]
    simpa [rpCells] using hj
  obtain ⟨A, c, rfl⟩ := own_form h
  generalize hn : ps.length = n at *
  clear h hn hv
  have hz3 : (n : Int) = (n : Int) := rfl
  have hcap : Hid (n ≤ c) := by
    show n ≤ c
    rcases HO.out.2 with ⟨h1, h2⟩ | ⟨g, cap, cur, h1, _, _, h3, _⟩
    · cases h1; omega
    · cases h1; exact h3
  have hcz : (n : Int) ≤ (c : Int) := Int.ofNat_le.2 hcap.out
  have HONE := Lib.hid (rp_one x)
  have HM := Lib.hid (show n + 1 ≤ maxLen by unfold maxLen; omega)
  have HBY := Lib.hid (show (n + 1) * 48 ≤ 140737488355328 by omega)
  have HBA := Lib.hid hbase
  go_enter Tryz.func130, Tryz.ntmps130
  go_wp2_with (at_builtin; refine wpList_append_own_at _ rfl _ _ 24 rfl base 48 i0 (.agg #[.int .i64 0, .int .i64 0, .int .i64 0, .slice none 0 0]) 4 48 Tryz.underlying24 hi hz0 hz1 hz2 rfl (by decide) _ _ _ rfl HO.out ⟨vb, 0, none⟩ 1 1 (rpCells x) rfl rfl hnews.out HONE.out HM.out HBY.out HBA.out ?_)
  all_goals
    intro v2 w2 hown2 hgrow _ hat2
    have HA2 := Lib.hid (apart_grown0 hgrow)
    have HG2 := Lib.hid hat2
    clear hat2
    have HO2 := Lib.hid hown2
    clear hown2 hgrow
    go_wp2
    go_ret
    refine ⟨_, rfl, ?_, (Apart.refl _ w).trans HA2.out (fun x _ hx => (own_block_cap A n c _ _).trans hx), fun k hk => HG2.out.elim (fun e => .inl ((own_block_cap A n c _ _).trans (e.symm.trans hk))) (fun e => .inr (Nat.le_of_eq (Option.some.inj (e.symm.trans hk))))⟩
    rw [HLEN.out, HSN.out]
    exact HO2.out

set_option maxHeartbeats 4000000 in
set_option maxRecDepth 100000 in
/-- There is room: what stands from there on is moved by one. -/
theorem insert_shift (base : Nat) (g c : Nat) (cur : Array Value) (ps : List Rp) (k : Nat) (x : Rp) (vb : Nat) (w : World) (hg : w.heap[g]? = some (.cells cur 48 (0, 0))) (hbg : base ≤ g)
    (hk : k < ps.length) (hc : ps.length + 1 ≤ c) (hcm : c ≤ maxLen) (hcs : cur.size = c * 4) (ht : cur.toList.take (ps.length * 4) = rowP ps) (hl : ps.length ≤ 1000) (hbase : base ≤ w.heap.size)
    (hv : w.heap[vb]? = some (.cells #[.int .i64 x.2.u, .int .i64 x.2.s, .int .i64 x.2.c, rpV x] 48 (0, 0))) (hne : vb ≠ g) :
    Calls Tryz.prog 130 #[.slice (some ⟨g, 0, none⟩) ps.length c, .int .i64 k, .slice (some ⟨vb, 0, none⟩) 1 1] w (RetMp base 48 (.slice (some ⟨g, 0, none⟩) ps.length c) (ps.take k ++ [x] ++ ps.drop k) w) := by
  have hov : ∀ lb cb, (callFunc 169 #[.slice (some ⟨vb, 0, none⟩) 1 1, .slice (some ⟨g, (k + 1) * 4, none⟩) lb cb]).run Tryz.prog w = .ok (.value (.bool false)) w := fun lb cb =>
    overlaps_no w vb g _ lb cb 1 1 cur _ _ _ hne hg hv (by omega)
  have hSl := rowP_length ps
  obtain ⟨cs1, hcs1⟩ : ∃ l, l = (rowP ps).drop (k * 4) := ⟨_, rfl⟩
  have hd : cs1.length = (ps.length - k) * 4 := by rw [hcs1, List.length_drop, hSl]; omega
  have hcl : cur.toList.length = c * 4 := by rw [Array.length_toList]; exact hcs
  obtain ⟨L1, hL1⟩ : ∃ l, l = splice cur.toList ((k + 1) * 4) cs1 := ⟨_, rfl⟩
  have hl1 : L1.length = c * 4 := by rw [hL1, splice_length (by rw [hd, hcl]; omega), hcl]
  obtain ⟨L2, hL2⟩ : ∃ l, l = splice L1 (k * 4) (rpCells x) := ⟨_, rfl⟩
  have hl2 : L2.length = c * 4 := by rw [hL2, splice_length (by simp [rpCells]; omega), hl1]
  have HFIN : Hid (L2.take ((ps.length + 1) * 4) = rowP (ps.take k ++ [x] ++ ps.drop k)) := by
    show _ = _
    rw [ins_cells, hL2, hL1, hcs1]
    exact ins_shift4 _ rfl hSl hk (by omega) ht
  have HFL : Hid ((ps.take k ++ [x] ++ ps.drop k).length = ps.length + 1) := by
    show _ = _
    simp
    omega
  have hcell : ∀ (j : Nat) (u : Value), cs1[j]? = some u → w.cell? ⟨g, k * 4 + j, none⟩ = some u := fun j u hj => by
    rw [cell_of_row w g _ _ _ (0, 0) hg, ← Array.getElem?_toList]
    rw [hcs1, List.getElem?_drop, ← ht] at hj
    by_cases h : k * 4 + j < ps.length * 4
    · rwa [List.getElem?_take_of_lt h] at hj
    · rw [List.getElem?_take_eq_none (by omega)] at hj; cases hj
  have hone : ∀ u ∈ cs1, u.oneCell' = true := fun u hu => rowP_one ps u (by rw [hcs1] at hu; exact List.mem_of_mem_drop hu)
  have hmin1 : Nat.min (ps.length + 1 - k) (ps.length + 1 - (k + 1)) = ps.length - k := by
    show min _ _ = _
    omega
  have hmin2 : Nat.min 1 (ps.length + 1 - k) = 1 := by
    show min _ _ = _
    omega
  obtain ⟨q, hq⟩ : ∃ q : Nat, ps.length - k = q := ⟨_, rfl⟩
  have hqe : ps.length + 1 - (k + 1) = ps.length - k := by omega
  have hcp1 : ∀ ty dc sc, (Builtin.copy_ #[24, 24] ty #[.slice (some ⟨g, (k + 1) * 4, none⟩) (ps.length - k) dc, .slice (some ⟨g, k * 4, none⟩) (ps.length + 1 - k) sc]).run Tryz.prog w.drew = .ok (goInt q) (w.drew.setRow g L1.toArray) := fun ty dc sc => by
    have := run_copy_k (P := Tryz.prog) w.drew 24 24 ty 48 4 g ((k + 1) * 4) (ps.length + 1 - (k + 1)) dc ⟨g, k * 4, none⟩ (ps.length + 1 - k) sc cur _ cs1 Tryz.underlying24 Tryz.sizePl4 hg (by rw [hd, hmin1]) (fun j u hj => by rw [Addr.add_lit]; exact hcell j u hj) (by rw [hd, hcs]; omega) hone
    rw [hmin1, ← hL1, hqe, hq] at this
    rw [hq]
    exact this
  have hh1 : (w.drew.setRow g L1.toArray).heap[g]? = some (.cells L1.toArray 48 (0, 0)) := setRow_heap w.drew g cur _ _ _ hg
  have hv1 : (w.drew.setRow g L1.toArray).heap[vb]? = some (.cells #[.int .i64 x.2.u, .int .i64 x.2.s, .int .i64 x.2.c, rpV x] 48 (0, 0)) := (setRow_block hne).trans hv
  have hcp2 : ∀ ty dc, (Builtin.copy_ #[24, 24] ty #[.slice (some ⟨g, k * 4, none⟩) (ps.length + 1 - k) dc, .slice (some ⟨vb, 0, none⟩) 1 1]).run Tryz.prog (w.drew.setRow g L1.toArray) = .ok (goInt 1) ((w.drew.setRow g L1.toArray).setRow g L2.toArray) := fun ty dc => by
    have := run_copy_k (P := Tryz.prog) (w.drew.setRow g L1.toArray) 24 24 ty 48 4 g (k * 4) (ps.length + 1 - k) dc ⟨vb, 0, none⟩ 1 1 L1.toArray _ (rpCells x) Tryz.underlying24 Tryz.sizePl4 hh1 (by rw [hmin2]; rfl)
      (fun j u hj => by rw [Addr.add_lit, Nat.zero_add, cell_of_row _ vb j _ _ (0, 0) hv1]; simpa [rpCells] using hj) (by simp [hl1, rpCells]; omega) (rp_one x)
    rw [hmin2, List.toList_toArray, ← hL2] at this
    exact this
  have HEND : Hid (RetMp base 48 (.slice (some ⟨g, 0, none⟩) ps.length c) (ps.take k ++ [x] ++ ps.drop k) w (.returned (.slice (some ⟨g, 0, none⟩) (ps.length + 1) c)) ((w.drew.setRow g L1.toArray).setRow g L2.toArray)) := by
    refine ⟨_, rfl, ⟨by rw [rowP_length], .inr ⟨g, c, L2.toArray, by rw [HFL.out], hbg, setRow_heap _ g L1.toArray _ _ _ hh1, by rw [HFL.out]; exact hc, hcm, by simpa using hl2, by rw [HFL.out, List.toList_toArray]; exact HFIN.out⟩⟩,
      apart_setRow (apart_setRow (Apart.refl _ w).drew1 rfl) rfl, fun x hx => .inl hx⟩
  generalize hn : ps.length = n at *
  clear hq hqe HFIN HFL hcell hone hmin1 hmin2 hd hcl hl1 hl2 hSl hcs1 hL1 hL2 hh1 hv1 ht hn hcs hg hv
  have hz1 : ¬ ((k : Int) = (n : Int)) := by omega
  have mixed : Tryz.prog.follows .mixedOrders = true := by kernel_rfl
  have hw1 : IntKind.i64.wrap ((k : Int) + 1) = (k : Int) + 1 := by rw [IntKind.wrap_i64]; omega
  have hw2 : IntKind.i64.wrap ((n : Int) + 1) = (n : Int) + 1 := by rw [IntKind.wrap_i64]; omega
  have hcz : c ≤ 9223372036854775807 := by unfold maxLen at hcm; omega
  have hb1 : (0 : Int) ≤ (k : Int) + 1 := by omega
  have hin : k ≤ n := by omega
  have htn : ((k : Int) + 1).toNat = k + 1 := by omega
  have htn2 : ((n : Int) + 1).toNat = n + 1 := by omega
  have hb2 : ¬ (c = k + 1) := by omega
  have hb4 : ¬ (c = k) := by omega
  have hb5 : (k : Int) ≤ (n : Int) + 1 := by omega
  go_enter Tryz.func130, Tryz.ntmps130
  go_wp2_with (simp only [hov])
  go_region_law_o (refine step_copy_runI rfl _ _ 24 24 rfl _ _ (by simp [Act.eval, Act.put]) (by simp [Act.eval, Act.put]) (hcp1 _ _ _) ?_)
  go_wp2_with (at_builtin; refine wpList_copy_runI _ rfl _ _ 24 24 rfl _ _ rfl rfl (hcp2 _ _) ?_)
  go_ret
  exact HEND.out

theorem zeroCells_length (n : Nat) : (Builtin.zeroCells #[.int .i64 0, .int .i64 0, .int .i64 0, .slice none 0 0] n).size = n * 4 := by simp [Builtin.zeroCells]

set_option maxHeartbeats 4000000 in
set_option maxRecDepth 100000 in
/-- There is no room: a new row. -/
theorem insert_grow (base : Nat) (g c : Nat) (ps : List Rp) (k : Nat) (x : Rp) (vb : Nat) (w : World) (hat : ∀ j u, (rowP ps)[j]? = some u → w.cell? ⟨g, j, none⟩ = some u)
    (hk : k < ps.length) (hn : ps.length ≤ c) (hc : c < ps.length + 1) (hl : ps.length ≤ 1000) (hbase : base ≤ w.heap.size) (hgl : g < w.heap.size)
    (hv : w.heap[vb]? = some (.cells #[.int .i64 x.2.u, .int .i64 x.2.s, .int .i64 x.2.c, rpV x] 48 (0, 0))) :
    Calls Tryz.prog 130 #[.slice (some ⟨g, 0, none⟩) ps.length c, .int .i64 k, .slice (some ⟨vb, 0, none⟩) 1 1] w (RetMp base 48 (.slice (some ⟨g, 0, none⟩) ps.length c) (ps.take k ++ [x] ++ ps.drop k) w) := by
  obtain ⟨i0, hi, hz0, hz1, hz2⟩ := info_parts Tryz.infoPl
  have hSl := rowP_length ps
  have hvl : vb < w.heap.size := by
    rcases Nat.lt_or_ge vb w.heap.size with h | h
    · exact h
    · rw [Array.getElem?_eq_none h] at hv; cases hv
  obtain ⟨cs1, hcs1⟩ : ∃ l, l = (rowP ps).drop (k * 4) := ⟨_, rfl⟩
  have hd : cs1.length = (ps.length - k) * 4 := by rw [hcs1, List.length_drop, hSl]; omega
  have hold : (Builtin.firstCells i0.size k (.slice (some ⟨g, 0, none⟩) k c)).run Tryz.prog w.drew = .ok ((rowP ps).take (k * 4)).toArray w.drew := by
    rw [hz1]
    exact run_firstCells_some (w := w.drew) 4 k ⟨g, 0, none⟩ k c _ (by rw [List.length_take, hSl]; omega) (fun j u hj => by
      rw [Addr.add_lit, Nat.zero_add]
      rw [List.getElem?_take] at hj
      split at hj
      · exact hat j u hj
      · cases hj)
  obtain ⟨G, hG⟩ : ∃ G, G = grownCap w (ps.length + 1) c 48 := ⟨_, rfl⟩
  have hGn : ps.length + 1 ≤ G := by rw [hG]; exact grownCap_ge w _ _ _
  have hGm : G ≤ maxLen := by rw [hG]; exact grownCap_le_maxLen w (ps.length + 1) c 48 (by unfold maxLen; omega)
  obtain ⟨ROW, hROW⟩ : ∃ ROW : Array Value, ROW = ((rowP ps).take (k * 4)).toArray ++ Builtin.zeroCells (Value.agg #[.int .i64 0, .int .i64 0, .int .i64 0, .slice none 0 0]).cells (ps.length + 1 - k) ++ Builtin.zeroCells (Value.agg #[.int .i64 0, .int .i64 0, .int .i64 0, .slice none 0 0]).cells (G - (ps.length + 1)) := ⟨_, rfl⟩
  have hRs : ROW.size = G * 4 := by
    rw [hROW, Array.size_append, Array.size_append]
    show _ + (Builtin.zeroCells #[.int .i64 0, .int .i64 0, .int .i64 0, .slice none 0 0] _).size + (Builtin.zeroCells #[.int .i64 0, .int .i64 0, .int .i64 0, .slice none 0 0] _).size = _
    rw [zeroCells_length, zeroCells_length, List.size_toArray, List.length_take, hSl]
    omega
  have hRt : ROW.toList.take (k * 4) = (rowP ps).take (k * 4) := by
    rw [hROW, Array.toList_append, Array.toList_append, List.append_assoc, List.take_append_of_le_length (by simp [hSl]; omega), List.toList_toArray, List.take_take, Nat.min_self]
  have hrz : ∀ ty, (Builtin.append_ #[24, 3] ty #[.slice (some ⟨g, 0, none⟩) k c, .int .i64 ((ps.length : Int) + 1 - (k : Int))]).run Tryz.prog w =
      .ok (.slice (some ⟨w.heap.size, 0, none⟩) (ps.length + 1) G) (w.drew.alloc (.cells ROW 48)) := fun ty => by
    have h := Lib.run_append_grow_zeros w 24 3 ty 48 i0 _ .i64 .i64 Tryz.underlying24 Tryz.underlying3 hi hz0 (some ⟨g, 0, none⟩) k c ((rowP ps).take (k * 4)) hold (ps.length + 1 - k) (by omega) (by omega) (by omega) (by omega) (by rw [hz2]; omega) (by
      rw [hz2, show k + (ps.length + 1 - k) = ps.length + 1 by omega]; exact growslice_fits (by omega) (by omega))
    rw [show k + (ps.length + 1 - k) = ps.length + 1 by omega, ← hG, ← hROW] at h
    rw [show (ps.length : Int) + 1 - (k : Int) = ((ps.length + 1 - k : Nat) : Int) by omega]
    exact h
  obtain ⟨N, hN⟩ : ∃ N, N = w.heap.size := ⟨_, rfl⟩
  obtain ⟨L1, hL1⟩ : ∃ l, l = splice ROW.toList (k * 4) (rpCells x) := ⟨_, rfl⟩
  have hRl : ROW.toList.length = G * 4 := by rw [Array.length_toList]; exact hRs
  have hl1 : L1.length = G * 4 := by rw [hL1, splice_length (by simp [rpCells]; omega), hRl]
  obtain ⟨L2, hL2⟩ : ∃ l, l = splice L1 ((k + 1) * 4) cs1 := ⟨_, rfl⟩
  have hl2 : L2.length = G * 4 := by rw [hL2, splice_length (by rw [hd, hl1]; omega), hl1]
  have HFIN : Hid (L2.take ((ps.length + 1) * 4) = rowP (ps.take k ++ [x] ++ ps.drop k)) := by
    show _ = _
    rw [ins_cells, hL2, hL1, hcs1]
    exact ins_grow _ rfl hSl hk (by omega) hRt
  have HFL : Hid ((ps.take k ++ [x] ++ ps.drop k).length = ps.length + 1) := by
    show _ = _
    simp
    omega
  have hone : ∀ u ∈ cs1, u.oneCell' = true := fun u hu => rowP_one ps u (by rw [hcs1] at hu; exact List.mem_of_mem_drop hu)
  obtain ⟨W1, hW1⟩ : ∃ W1, W1 = w.drew.alloc (.cells ROW 48) := ⟨_, rfl⟩
  have hh0 : W1.heap[N]? = some (.cells ROW 48 (0, 0)) := by rw [hW1, hN]; exact heap_alloc_new w.drew _
  have hv0 : W1.heap[vb]? = some (.cells #[.int .i64 x.2.u, .int .i64 x.2.s, .int .i64 x.2.c, rpV x] 48 (0, 0)) := by
    rw [hW1]
    exact (((Below.refl w.drew.heap.size w.drew).alloc (Nat.le_refl _) (.cells ROW 48)).block vb hvl).trans hv
  have hb0 : Below w.heap.size w W1 := by rw [hW1]; exact (Below.refl w.heap.size w).drew.alloc (Nat.le_refl _) _
  have hmin1 : Nat.min 1 (ps.length + 1 - k) = 1 := by
    show min _ _ = _
    omega
  have hmin2 : Nat.min (ps.length - k) (ps.length + 1 - (k + 1)) = ps.length - k := by
    show min _ _ = _
    omega
  have hqe : ps.length + 1 - (k + 1) = ps.length - k := by omega
  obtain ⟨q, hq⟩ : ∃ q : Nat, ps.length - k = q := ⟨_, rfl⟩
  have hcpA : ∀ ty dc, (Builtin.copy_ #[24, 24] ty #[.slice (some ⟨N, k * 4, none⟩) (ps.length + 1 - k) dc, .slice (some ⟨vb, 0, none⟩) 1 1]).run Tryz.prog W1 = .ok (goInt 1) (W1.setRow N L1.toArray) := fun ty dc => by
    have := run_copy_k (P := Tryz.prog) W1 24 24 ty 48 4 N (k * 4) (ps.length + 1 - k) dc ⟨vb, 0, none⟩ 1 1 ROW _ (rpCells x) Tryz.underlying24 Tryz.sizePl4 hh0 (by rw [hmin1]; rfl)
      (fun j u hj => by rw [Addr.add_lit, Nat.zero_add, cell_of_row _ vb j _ _ (0, 0) hv0]; simpa [rpCells] using hj) (by simp [hRs, rpCells]; omega) (rp_one x)
    rw [hmin1, ← hL1] at this
    exact this
  have hh1 : (W1.setRow N L1.toArray).heap[N]? = some (.cells L1.toArray 48 (0, 0)) := setRow_heap W1 N ROW _ _ _ hh0
  have hb1 : Below w.heap.size w (W1.setRow N L1.toArray) := below_setRow hb0 (by omega)
  have hcpB : ∀ ty dc sc, (Builtin.copy_ #[24, 24] ty #[.slice (some ⟨N, (k + 1) * 4, none⟩) (ps.length - k) dc, .slice (some ⟨g, k * 4, none⟩) (ps.length - k) sc]).run Tryz.prog (W1.setRow N L1.toArray).drew = .ok (goInt q) ((W1.setRow N L1.toArray).drew.setRow N L2.toArray) := fun ty dc sc => by
    have := run_copy_k (P := Tryz.prog) (W1.setRow N L1.toArray).drew 24 24 ty 48 4 N ((k + 1) * 4) (ps.length + 1 - (k + 1)) dc ⟨g, k * 4, none⟩ (ps.length - k) sc L1.toArray _ cs1 Tryz.underlying24 Tryz.sizePl4 hh1 (by rw [hd, hmin2])
      (fun j u hj => by
        rw [Addr.add_lit]
        refine (hb1.cell (p := ⟨g, k * 4 + j, none⟩) hgl).trans ?_
        rw [hcs1, List.getElem?_drop] at hj
        exact hat _ _ hj) (by simp [hl1, hd]; omega) hone
    rw [hmin2, List.toList_toArray, ← hL2, hqe, hq] at this
    rw [hq]
    exact this
  have HEND : Hid (RetMp base 48 (.slice (some ⟨g, 0, none⟩) ps.length c) (ps.take k ++ [x] ++ ps.drop k) w (.returned (.slice (some ⟨N, 0, none⟩) (ps.length + 1) G)) ((W1.setRow N L1.toArray).drew.setRow N L2.toArray)) := by
    refine ⟨_, rfl, ⟨by rw [rowP_length], .inr ⟨N, G, L2.toArray, by rw [HFL.out], by omega, setRow_heap _ N L1.toArray _ _ _ hh1, by rw [HFL.out]; exact hGn, hGm, by simpa using hl2, by rw [HFL.out, List.toList_toArray]; exact HFIN.out⟩⟩,
      Apart.of_below (below_setRow hb1.drew (by omega)), fun x hx => .inr (by cases hx; show w.heap.size ≤ N; omega)⟩
  rw [← hN, ← hW1] at hrz
  generalize hnn : ps.length = n at *
  clear hq hqe HFIN HFL hone hmin1 hmin2 hd hl1 hl2 hRl hSl hcs1 hL1 hL2 hh0 hh1 hv0 hb0 hb1 hold hat hRt hRs hROW hG hnn hv hW1 hN hvl hgl
  have hz1 : ¬ ((k : Int) = (n : Int)) := by omega
  have hz3 : (c : Int) < (n : Int) + 1 := by omega
  have mixed : Tryz.prog.follows .mixedOrders = true := by kernel_rfl
  have hw1 : IntKind.i64.wrap ((k : Int) + 1) = (k : Int) + 1 := by rw [IntKind.wrap_i64]; omega
  have hw2 : IntKind.i64.wrap ((n : Int) + 1) = (n : Int) + 1 := by rw [IntKind.wrap_i64]; omega
  have hcz : G ≤ 9223372036854775807 := by unfold maxLen at hGm; omega
  have hb1 : (0 : Int) ≤ (k : Int) + 1 := by omega
  have hin : k ≤ n := by omega
  have htn : ((k : Int) + 1).toNat = k + 1 := by omega
  have hb2 : ¬ (G = k + 1) := by omega
  have hb4 : ¬ (G = k) := by omega
  have hb6 : ¬ (c = k) := by omega
  have hb5 : (k : Int) ≤ (n : Int) + 1 := by omega
  have hb7 : (k : Int) ≤ (n : Int) := by omega
  go_enter Tryz.func130, Tryz.ntmps130
  go_wp2_with (first
    | (at_builtin; refine Lib.wpList_append_run _ rfl _ _ _ _ rfl _ _ rfl rfl _ _ (hrz _) ?_)
    | (at_builtin; refine wpList_copy_runI _ rfl _ _ 24 24 rfl _ _ rfl rfl (hcpA _ _) ?_))
  go_region_law_o (refine step_copy_runI rfl _ _ 24 24 rfl _ _ (by simp [Act.eval, Act.put]) (by simp [Act.eval, Act.put]) (hcpB _ _ _) ?_)
  go_wp2
  go_ret
  exact HEND.out

/-- slices.Insert of one, wherever it goes. -/
theorem insert_any (base : Nat) (v : Value) (ps : List Rp) (k : Nat) (x : Rp) (vb : Nat) (w : World) (h : w.ownsRow base 48 4 v ps.length (rowP ps)) (hk : k ≤ ps.length) (hl : ps.length ≤ 1000) (hbase : base ≤ w.heap.size)
    (hv : w.heap[vb]? = some (.cells #[.int .i64 x.2.u, .int .i64 x.2.s, .int .i64 x.2.c, rpV x] 48 (0, 0))) (hne : v.ownBlock ≠ some vb) :
    Calls Tryz.prog 130 #[v, .int .i64 k, .slice (some ⟨vb, 0, none⟩) 1 1] w (RetMp base 48 v (ps.take k ++ [x] ++ ps.drop k) w) := by
  by_cases hkn : k = ps.length
  · subst hkn
    have := insert_end base v ps x vb w h hl hbase hv
    rwa [show ps.take ps.length ++ [x] ++ ps.drop ps.length = ps ++ [x] by simp]
  · obtain ⟨h1, h2⟩ := h
    rcases h2 with ⟨_, h0⟩ | ⟨g, cap, cur, rfl, hg, hh, hn, hc, hs, ht⟩
    · omega
    · have hgl : g < w.heap.size := (Array.getElem?_eq_some_iff.1 hh).1
      by_cases hr : ps.length + 1 ≤ cap
      · exact insert_shift base g cap cur ps k x vb w hh hg (by omega) hr hc hs ht hl hbase hv (fun e => hne (by rw [e]; rfl))
      · refine insert_grow base g cap ps k x vb w (fun j u hj => ?_) (by omega) hn (by omega) hl hbase hgl hv
        rw [cell_of_row w g j _ _ (0, 0) hh, ← Array.getElem?_toList]
        rw [← ht] at hj
        by_cases hjn : j < ps.length * 4
        · rwa [List.getElem?_take_of_lt hjn] at hj
        · rw [List.getElem?_take_eq_none (by omega)] at hj; cases hj
end Go.Proofs.YtpfpojehcjmfnaaGreat

/-
  Find of program and document.
  Conditions: the slice reads as places.
-/
set_option linter.unusedVariables false
namespace Go.Proofs.YtpfpojehcjmfnaaGreat
open Go.RowKit

/-- What Find answers: the place, or a zero one; its pieces in blocks of F. -/
def RetFind (F : Nat → Prop) (o : Option Pl) (w : World) (e : Ending) (w' : World) : Prop :=
  ∃ v, e = .returned (.tuple #[plA v (o.getD zeroPl), .bool o.isSome]) ∧ PcsIn F w' v (o.getD zeroPl).ps ∧ Below w.heap.size w w'
theorem PcsIn.setRow {F : Nat → Prop} {W : World} {v : Value} {ps : List Pc} (h : PcsIn F W v ps) {N : Nat} {cs : Array Value} (hn : ¬ F N ∨ W.heap.size ≤ N) : PcsIn F (W.setRow N cs) v ps :=
  h.keepF (by simp) fun b hb hF => setRow_other _ _ _ _ (by
    intro e
    subst e
    rcases hn with hn | hn
    · exact hn hF
    · omega)

set_option maxRecDepth 100000 in
set_option maxHeartbeats 4000000 in
theorem find_any (f : Int) (m : Nat) (v : Value) (l : List Pl) (u : Int) (w : World) (h : PlsAt w v l) (hl : l.length ≤ 1000) (hp : ∀ x ∈ l, x.ps.length ≤ 1000) :
    Calls Tryz.prog 123 #[planA f m v, .int .i64 u] w (RetFind (fun b => w.heap.size ≤ b) (findU l u) w) := by
  have HL := Lib.hid h
  have HPL := Lib.hid hp
  obtain ⟨A, cA, rfl, hlc, hcm⟩ := h.form
  obtain ⟨n, hn⟩ : ∃ n, l.length = n := ⟨_, rfl⟩
  rw [hn] at HL hlc hl ⊢
  have HN := Lib.hid hn
  obtain ⟨w1, P, hw1, hP, hPl, hb1, hbox⟩ := box_any w #[.int .i64 f, .int .u32 m, .slice A n cA] 26
  obtain ⟨w2, U, hw2, hU, hUl, hb2, hub⟩ := box_any w1 #[.int .i64 u] 3
  obtain ⟨w3, R, hw3, hR, hRl, hb3, hrb⟩ := box_any w2 #[.int .i64 0, .int .i64 0, .int .i64 0, .slice none 0 0] 48
  have HB2 := Lib.hid (hb1.trans (hb2.mono hb1.size))
  have HB3 := Lib.hid (HB2.out.trans (hb3.mono HB2.out.size))
  have HPB := Lib.hid (keep_block (keep_block hbox hb2) hb3)
  have HRB := Lib.hid hrb
  have hU3 : U < w3.heap.size := Nat.lt_of_lt_of_le hUl hb3.size
  have hu0 : w3.cell? ⟨U, 0, none⟩ = some (.int .i64 u) := by
    have e := keep_block hub hb3
    simp [World.cell?, e]
  have HI := Lib.hid (indexPl_any (.slice A n cA) l u U w3 (HL.out.keep HB3.out) hU3 hu0)
  have HLT := Lib.hid (show w.heap.size ≤ P ∧ P < U ∧ U < R ∧ R < w3.heap.size by have := hb1.size; have := hb2.size; omega)
  obtain ⟨p0, p1, p2⟩ := three_heads HPB.out
  clear h hp hn hb1 hb2 hb3 hbox hub hrb
  unfold planA
  go_enter Tryz.func123, Tryz.ntmps123
  go_wp2_with fail
  refine HI.out.mono ?_
  rintro e w4 ⟨r, rfl, hr, hb4⟩
  have HB4 := Lib.hid (HB3.out.trans (hb4.mono HB3.out.size))
  have HP4 := Lib.hid (keep_block HPB.out hb4)
  have HR4 := Lib.hid (keep_block HRB.out hb4)
  clear hb4 p0 p1 p2 hw1 hP hw2 hU hw3 hu0
  rcases hr with ⟨rfl, hnone⟩ | ⟨k, x, rfl, hx, hfound⟩
  · have HE := Lib.hid hnone
    clear hnone
    go_wp2_with (refine wpList_store_row rfl _ _ _ rfl R #[.int .i64 0, .int .i64 0, .int .i64 0, .slice none 0 0] rfl rfl 48 _ HR4.out (Tryz.sizePl _ _ _ _) rfl (one4 _ _ _ _ _ _) ?_)
    refine bodyPost_ret (v := .tuple #[.agg #[.int .i64 0, .int .i64 0, .int .i64 0, .slice none 0 0], .bool false]) (results_row_tmp rfl _ _ R _ _ _ _ rfl (setRow_heap _ _ _ _ _ _ HR4.out) Tryz.underlying48 rfl (Tryz.sizePl _ _ _ _) _ rfl) rfl ?_
    rw [HE.out]
    exact ⟨_, rfl, PcsIn.nil _ _, below_row16 HB4.out (by have := HLT.out; omega) _⟩
  · have HE := Lib.hid hfound
    have HX := Lib.hid hx
    have hkn : k < n := by have := (List.getElem?_eq_some_iff.1 hx).1; have := HN.out; omega
    have hknz : (k : Int) < (n : Int) := by omega
    have hk0 : (0 : Int) ≤ (k : Int) := by omega
    have hkd : decide ((k : Int) < 0) = false := decide_eq_false (by omega)
    obtain ⟨b, off, B, d, hA, hbl, _, ⟨c0, c1, c2, c3⟩, hps⟩ := (HL.out.keep HB4.out).at_ hx
    subst hA
    simp only at c0 c1 c2 c3
    have HC := Lib.hid (clonePl_any (.slice B x.ps.length d) x w4 hps (HPL.out x (List.mem_of_getElem? hx)))
    unfold plA at HC
    obtain ⟨r0, r1, r2⟩ := three_heads HP4.out
    clear hx hfound hps
    go_wp2_with fail
    refine HC.out.mono ?_
    rintro e w5 ⟨v', rfl, hps5, hb5⟩
    have HPS := Lib.hid hps5
    have HB5 := Lib.hid (HB4.out.trans (hb5.mono HB4.out.size))
    have HR5 := Lib.hid (keep_block HR4.out hb5)
    have HS4 := Lib.hid (show R < w4.heap.size from heap_lt HR4.out)
    obtain ⟨A', d', hv'⟩ := hps5.form
    subst hv'
    clear hb5 hps5 r0 r1 r2
    unfold plA
    go_wp2_with (refine wpList_store_row rfl _ _ _ rfl R #[.int .i64 x.u, .int .i64 x.s, .int .i64 x.c, .slice A' x.ps.length d'] rfl rfl 48 _ HR5.out (Tryz.sizePl _ _ _ _) rfl (one4 _ _ _ _ _ _) ?_)
    refine bodyPost_ret (v := .tuple #[.agg #[.int .i64 x.u, .int .i64 x.s, .int .i64 x.c, .slice A' x.ps.length d'], .bool true]) (results_row_tmp rfl _ _ R _ _ _ _ rfl (setRow_heap _ _ _ _ _ _ HR5.out) Tryz.underlying48 rfl (Tryz.sizePl _ _ _ _) _ rfl) rfl ?_
    rw [HE.out]
    refine ⟨_, rfl, ?_, below_row16 HB5.out (by have := HLT.out; omega) _⟩
    exact (HPS.out.setRow (.inl (by have := HS4.out; omega))).mono fun b _ hF => Nat.le_trans HB4.out.size hF

end Go.Proofs.YtpfpojehcjmfnaaGreat

/-
  The page's plan.
  Conditions: none.
-/
set_option linter.unusedVariables false
namespace Go.Proofs.YtpfpojehcjmfnaaGreat
open Go.RowKit

/-- What a call answers: this plan, its places in blocks of F. -/
def RetPn (F : Nat → Prop) (f : Int) (m : Nat) (l : List Pl) (w : World) (e : Ending) (w' : World) : Prop := ∃ v, e = .returned (planA f m v) ∧ PlsIn F w' v l ∧ Below w.heap.size w w'
theorem below_row {B g : Nat} {a w : World} (h : Below B a w) (hg : B ≤ g) (cs : Array Value) : Below B a (w.setRow g cs) := below_row16 h hg cs
theorem PlsIn.setRow {F : Nat → Prop} {W : World} {v : Value} {l : List Pl} (h : PlsIn F W v l) {N : Nat} {cs : Array Value} (hn : ¬ F N ∨ W.heap.size ≤ N) : PlsIn F (W.setRow N cs) v l :=
  h.keepF (by simp) fun b hb hF => setRow_other _ _ _ _ (by
    intro e
    subst e
    rcases hn with hn | hn
    · exact hn hF
    · omega)
theorem one3 (f : Int) (m : Nat) (A : Option Addr) (n d : Nat) : (#[.int .i64 f, .int .u32 m, .slice A n d] : Array Value).all (·.oneCell') = true := by simp [Value.oneCell']

end Go.Proofs.YtpfpojehcjmfnaaGreat

/-
  Drop of program and document.
  Conditions: the slice reads as places.
-/
set_option linter.unusedVariables false
namespace Go.Proofs.YtpfpojehcjmfnaaGreat
open Go.RowKit

/-- A plan without a unit's place. -/
def dropT (l : List Pl) (u : Int) : List Pl := l.filter fun x => !decide (x.u = u)
theorem drop_take {l : List Pl} {k : Nat} {x : Pl} {u : Int} (hx : l[k]? = some x) : dropT (l.take (k + 1)) u = dropT (l.take k) u ++ (if x.u = u then [] else [x]) := by
  unfold dropT
  rw [List.take_add_one, hx, Option.toList_some, List.filter_append]
  congr 1
  by_cases h : x.u = u
  · simp [h]
  · simp [h]
theorem drop_le (l : List Pl) (u : Int) : (dropT l u).length ≤ l.length := List.length_filter_le _ _
theorem plsR_length (ls : List Rp) : (plsR ls).length = ls.length := by unfold plsR; simp
theorem plsR_snoc (ls : List Rp) (r : Rp) : plsR (ls ++ [r]) = plsR ls ++ [r.2] := by simp [plsR]

/-- A row of places of one's own, their pieces in blocks of F that are not the row's. -/
structure RowPl (W : World) (base : Nat) (F : Nat → Prop) (v : Value) (ls : List Rp) : Prop where
  own : W.ownsRow base 48 4 v ls.length (rowP ls)
  pcs : AllPcs (fun b => F b ∧ v.ownBlock ≠ some b) W ls
theorem RowPl.nil (W : World) (base : Nat) (F : Nat → Prop) : RowPl W base F (.slice none 0 0) [] := ⟨World.ownsRow_nil _ _ _ _, AllPcs.nil _ _⟩
theorem RowPl.keep {W W' : World} {base : Nat} {F : Nat → Prop} {v : Value} {ls : List Rp} (h : RowPl W base F v ls) (hb : Below W.heap.size W W') : RowPl W' base F v ls := ⟨own_below5 h.own hb, h.pcs.keep hb⟩
theorem RowPl.snoc {W W' : World} {base : Nat} {F : Nat → Prop} {v v' : Value} {ls : List Rp} {r : Rp} (h : RowPl W base F v ls) (hr : PcsIn (fun b => F b ∧ v.ownBlock ≠ some b) W (rpV r) r.2.ps)
    (ho : W'.ownsRow base 48 4 v' (ls.length + 1) (rowP ls ++ rpCells r)) (hg : W.grownBy W' v.ownBlock) (hat : v'.ownBlock = v.ownBlock ∨ v'.ownBlock = some W.heap.size) : RowPl W' base F v' (ls ++ [r]) := by
  have hall := h.pcs.snoc hr
  refine ⟨by rw [rowP_snoc, List.length_append]; exact ho, (hall.mono (G := fun b => b < W.heap.size ∧ F b ∧ v.ownBlock ≠ some b) fun b hb hF => ⟨hb, hF⟩).keepF hg.size (fun b hb hF => hg.block b hb fun e => hF.2.2 e.symm) |>.mono fun b _ hF => ⟨hF.2.1, fun e => ?_⟩⟩
  rcases hat with hat | hat
  · exact hF.2.2 (hat ▸ e)
  · rw [hat] at e
    have := Option.some.inj e
    omega
/-- From another base, where the blocks from there on are as they were. -/
theorem RowPl.at_base {W W' : World} {base base' : Nat} {v : Value} {ls : List Rp} (h : RowPl W base (fun b => base ≤ b) v ls) (hb : base' ≤ base) (hs : W.heap.size ≤ W'.heap.size) (hk : ∀ b, base ≤ b → W'.heap[b]? = W.heap[b]?) : RowPl W' base' (fun b => base' ≤ b) v ls :=
  ⟨own_mono5 (own_keep h.own fun k hv => hk k (own_base5 h.own k hv)) hb, (h.pcs.keepF hs fun b _ hF => hk b hF.1).mono fun b _ hF => ⟨by have := hF.1; omega, hF.2⟩⟩
/-- What a call answers: this plan, its places in a row of the call's own. -/
def RetRow (f : Int) (m : Nat) (l : List Pl) (w : World) (e : Ending) (w' : World) : Prop := ∃ v ls, e = .returned (planA f m v) ∧ plsR ls = l ∧ RowPl w' w.heap.size (fun b => w.heap.size ≤ b) v ls ∧ Below w.heap.size w w'
theorem news_rp (W : World) (t : Nat) (r : Rp) : ∀ j u, (rpCells r)[j]? = some u → (W.alloc (.cells #[.int .i64 r.2.u, .int .i64 r.2.s, .int .i64 r.2.c, rpV r] t)).cell? ((⟨W.heap.size, 0, none⟩ : Addr).add j) = some u := World.news_of_block (heap_alloc_new W _)
/-- The end of a call that puts places into its plan and answers it. -/
theorem pn_end {w W : World} {P R : Nat} {F : Nat → Prop} {A : Option Addr} {n d : Nat} {l : List Pl} (hpl : PlsIn F W (.slice A n d) l) (hFP : ¬ F P) (hFR : ¬ F R) (hb : Below w.heap.size w W) (hP : w.heap.size ≤ P) (hR : w.heap.size ≤ R) (cs : Array Value) :
    PlsIn F ((W.setCell ⟨P, 2, none⟩ (.slice A n d)).setRow R cs) (.slice A n d) l ∧ Below w.heap.size w ((W.setCell ⟨P, 2, none⟩ (.slice A n d)).setRow R cs) :=
  ⟨PlsIn.setRow (hpl.keepF (by simp [World.setCell]) fun b hb hF => Below.heap_setCell _ _ _ _ (by intro e; subst e; exact hFP hF)) (.inl hFR), below_row (hb.setCell (p := ⟨P, 2, none⟩) hP _) hR _⟩

set_option maxRecDepth 100000 in
set_option maxHeartbeats 4000000 in
theorem planDrop_any (f : Int) (m : Nat) (v : Value) (l : List Pl) (u : Int) (w : World) (h : PlsAt w v l) (hl : l.length ≤ 1000) (hp : ∀ x ∈ l, x.ps.length ≤ 1000) :
    Calls Tryz.prog 78 #[planA f m v, .int .i64 u] w (RetRow f m (dropT l u) w) := by
  obtain ⟨i0, hi, hz0, hz1, hz2⟩ := info_parts Tryz.infoPl
  have HPL := Lib.hid hp
  obtain ⟨A, cA, rfl, hlc, hcm⟩ := h.form
  have HL := Lib.hid h
  obtain ⟨w1, P, hw1, hP, hPl, hb1, hbox⟩ := box_any w #[.int .i64 f, .int .u32 m, .slice A l.length cA] 26
  obtain ⟨w2, R, hw2, hR, hRl, hb2, hrox⟩ := box_any w1 #[.int .i64 0, .int .u32 0, .slice none 0 0] 26
  obtain ⟨n, hn⟩ : ∃ n, l.length = n := ⟨_, rfl⟩
  rw [hn] at HL hlc hl hw1 hbox ⊢
  have HN := Lib.hid hn
  have HB1 := Lib.hid (hb1.trans (hb2.mono hb1.size))
  have HBOX := Lib.hid (keep_block hbox hb2)
  have HROX := Lib.hid hrox
  have HLT := Lib.hid (show w.heap.size ≤ P ∧ P < R ∧ R < w2.heap.size ∧ w.heap.size ≤ w2.heap.size by have := hb1.size; have := hb2.size; omega)
  obtain ⟨r0, r1, r2⟩ := three_heads HBOX.out
  clear h hn hb1 hb2 hbox hrox
  unfold planA
  go_enter Tryz.func78, Tryz.ntmps78
  go_wp2_with fail
  clear hw1 hP hw2 hR r0 r1 r2
  go_loopg [5, 7, 11] n (fun gg s5 _ s11 wr => ∃ (k : Nat) (ls : List Rp), k ≤ n ∧ gg = n - k ∧ s11 = .int .i64 k ∧ Below w2.heap.size w2 wr ∧ plsR ls = dropT (l.take k) u ∧ RowPl wr w2.heap.size (fun b => w2.heap.size ≤ b) s5 ls)
  case atStart => exact ⟨0, [], Nat.zero_le _, by omega, rfl, Below.refl _ _, rfl, RowPl.nil _ _ _⟩
  case round =>
    obtain ⟨k, ls, hk, hg, rfl, hbw, hls, hrow⟩ := hrel
    have HBW := Lib.hid hbw
    have HB := Lib.hid (HB1.out.trans (hbw.mono HB1.out.size))
    have HG := Lib.hid hg
    have HLS := Lib.hid hls
    have HRW := Lib.hid hrow
    have HBX := Lib.hid (keep_block HBOX.out hbw)
    have HRX := Lib.hid (keep_block HROX.out hbw)
    obtain ⟨r0, r1, r2⟩ := three_heads HBX.out
    clear hbw hg hls hrow
    by_cases hlt : k < n
    · have hk0 : (0 : Int) ≤ (k : Int) := by omega
      have hltz : (k : Int) < (n : Int) := by omega
      obtain ⟨x, hx⟩ := exP_at (xs := l) (k := k) (by rw [HN.out]; exact hlt)
      obtain ⟨b, off, B, d, hA, hbl, _, hpl, hps⟩ := HL.out.at_ hx
      obtain ⟨c0, c1, c2, c3⟩ := hpl.keep (HB.out.block b hbl)
      subst hA
      simp only at c0 c1 c2 c3
      have HX := Lib.hid hx
      have HPS := Lib.hid hps
      clear hx hps hpl
      have HKW := Lib.hid (HPS.out.keep HB.out)
      obtain ⟨w3, N, hw3, hN, hNl, hb3, hxbox⟩ := box_any wr #[.int .i64 x.u, .int .i64 x.s, .int .i64 x.c, .slice B x.ps.length d] 48
      have HB2 := Lib.hid hb3
      have HXB := Lib.hid hxbox
      obtain ⟨x0, x1, x2, x3⟩ := four_heads hxbox
      obtain ⟨p0, p1, p2⟩ := three_heads (keep_block HBX.out hb3)
      clear hb3 hxbox
      have HBX2 := Lib.hid (HBW.out.trans (HB2.out.mono HBW.out.size))
      have HR2 := Lib.hid (HRW.out.keep HB2.out)
      have HDT := Lib.hid (drop_take (u := u) HX.out)
      have HKW2 := Lib.hid (HKW.out.keep HB2.out)
      clear p0 p1 p2
      by_cases hu : x.u = u
      · have hu1 : (x.u != u) = false := by simpa using hu
        rw [if_pos hu, List.append_nil] at HDT
        clear hu
        go_wp2_with fail
        go_roundg (n - (k + 1))
        case measure => have := HG.out; omega
        case rel => exact ⟨k + 1, ls, by omega, rfl, by go_num, HBX2.out, HLS.out.trans HDT.out.symm, HR2.out⟩
      · have hu1 : (x.u != u) = true := by simpa using hu
        rw [if_neg hu] at HDT
        have HCL := Lib.hid (clonePl_any (.slice B x.ps.length d) x _ HKW2.out (HPL.out x (List.mem_of_getElem? HX.out)))
        unfold plA at HCL
        clear hu
        go_wp2_with fail
        refine HCL.out.mono ?_
        rintro e w4 ⟨v4, rfl, hps4, hb4⟩
        obtain ⟨A4, d4, rfl⟩ := hps4.form
        have HB4 := Lib.hid (HBX2.out.trans (hb4.mono HBX2.out.size))
        have HR4 := Lib.hid (HR2.out.keep hb4)
        have hsz := HB4.out.size
        have hlt5 := HBX2.out.size
        have HP4 : Hid (PcsIn (fun b => w2.heap.size ≤ b ∧ u5.ownBlock ≠ some b) w4 (rpV ((A4, d4), x)) x.ps) := Lib.hid (hps4.mono fun b _ hF => ⟨Nat.le_trans hlt5 hF, fun e => by
          have := own_lt HR2.out.own e
          omega⟩)
        have hle : ls.length ≤ 1000 := by
          rw [← plsR_length, HLS.out]
          exact Nat.le_trans (drop_le _ _) (by rw [List.length_take]; omega)
        clear hps4 hb4 x0 x1 x2 x3 c0 c1 c2 c3 hw3 hlt5
        unfold plA
        go_wp2_with (at_builtin; refine wpList_append_own_at _ rfl _ _ 24 rfl w2.heap.size 48 i0 (.agg #[.int .i64 0, .int .i64 0, .int .i64 0, .slice none 0 0]) 4 48 Tryz.underlying24 hi hz0 hz1 hz2 rfl (by decide) _ _ _ rfl (HR4.out.own.alloc _) ⟨w4.heap.size, 0, none⟩ 1 1 (rpCells ((A4, d4), x)) rfl rfl ?c1 ?c2 ?c3 ?c4 ?c5 ?_)
        case c1 => exact news_rp w4 _ ((A4, d4), x)
        case c2 => exact rp_one _
        case c3 => unfold maxLen; omega
        case c4 => omega
        case c5 => simp; omega
        intro v6 w6 hown6 hgrow _ hat
        have hba := (Below.refl w4.heap.size w4).alloc (Nat.le_refl _) (.cells #[.int .i64 x.u, .int .i64 x.s, .int .i64 x.c, .slice A4 x.ps.length d4] 48)
        have HB6 := Lib.hid ((HB4.out.alloc hsz _).trans (below_grown5 hgrow (by simp; omega) (own_base5 HR4.out.own)))
        have HR6 := Lib.hid ((HR4.out.keep hba).snoc (HP4.out.keep hba) hown6 hgrow (hat.imp id fun e => e.trans (by simp)))
        clear hown6 hgrow hsz hat hba
        go_wp2_with fail
        go_roundg (n - (k + 1))
        case measure => have := HG.out; omega
        case rel => exact ⟨k + 1, ls ++ [((A4, d4), x)], by omega, rfl, by go_num, HB6.out, by rw [plsR_snoc, HLS.out, HDT.out], HR6.out⟩
    · have hltz : ¬ (k : Int) < (n : Int) := by omega
      have HEQ : Hid (plsR ls = dropT l u) := Lib.hid (by rw [HLS.out, List.take_of_length_le (by rw [HN.out]; omega)])
      obtain ⟨A5, c5, hv5⟩ := own_form HRW.out.own
      subst hv5
      have HPN := Lib.hid (pls_of_own HRW.out.own (HRW.out.pcs.mono (G := fun b => w2.heap.size ≤ b) fun b _ hF => hF.1))
      rw [HEQ.out] at HPN
      have hlt4 := HLT.out
      have HP9 : Hid ((wr.setCell ⟨P, 2, none⟩ (.slice A5 ls.length c5)).heap[P]? = some (.cells #[.int .i64 f, .int .u32 m, .slice A5 ls.length c5] 26 (0, 0))) := heap_setCell_mem _ _ _ _ _ _ _ HBX.out
      have HR9 : Hid ((wr.setCell ⟨P, 2, none⟩ (.slice A5 ls.length c5)).heap[R]? = some (.cells #[.int .i64 0, .int .u32 0, .slice none 0 0] 26 (0, 0))) := (Below.heap_setCell _ _ _ _ (show R ≠ P by omega)).trans HRX.out
      obtain ⟨g0, g1, g2⟩ := three_heads HP9.out
      obtain ⟨fr⟩ : wr.frozen? ⟨P, 2, none⟩ = false ∧ True := ⟨by have e := HBX.out; simp [World.frozen?, e], trivial⟩
      go_wp2_with (refine wpList_store_row rfl _ _ _ rfl R #[.int .i64 f, .int .u32 m, .slice A5 ls.length c5] rfl rfl 26 _ HR9.out (Tryz.sizePn _ _ _) rfl (one3 _ _ _ _ _) ?_)
      refine bodyPost_ret (v := planA f m (.slice A5 ls.length c5)) (results_cell_row rfl _ _ R _ _ _ _ rfl (setRow_heap _ _ _ _ _ _ HR9.out) Tryz.underlying26 rfl (Tryz.sizePn _ _ _)) rfl ?_
      refine ⟨_, ls, rfl, HEQ.out, ?_, (pn_end (l := dropT l u) (F := fun b => w2.heap.size ≤ b) (HPN.out.mono fun b _ h => h.elim id id) (by omega) (by omega) HB.out HLT.out.1 (by omega) _).2⟩
      exact HRW.out.at_base (by omega) (by simp [World.setRow, World.setCell]) fun b hb => (setRow_other _ _ _ _ (by omega)).trans (Below.heap_setCell _ _ _ _ (show b ≠ P by omega))

end Go.Proofs.YtpfpojehcjmfnaaGreat
