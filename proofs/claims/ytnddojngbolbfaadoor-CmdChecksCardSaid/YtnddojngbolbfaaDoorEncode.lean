/-
  Encode: a right command's bytes, or what is wrong with it (P11.1).
  Conditions: the variable errors.errorType holds its handle.
-/
import Derived.Test.YtnddojngbolbfaaDoorCheck
import Derived.Test.YtnddojngbolbfaaDoorPut
import Derived.Test.YtnddojngbolbfaaDoorOrders
import Derived.Deep.AppendLies
import Derived.Laws.Rows
set_option linter.unusedVariables false
namespace Go.Proofs.YtnddojngbolbfaaDoor
open Go.RowKit

theorem Tryd.infoU : (Tryd.prog.info? 67).map (fun i => (i.zero, i.size, i.bytes)) = some (some (.int .u64 0), 1, 8) := by kernel_rfl

def wordsV (xs : List Nat) : List Value := xs.map fun n : Nat => Value.int .u64 n
/-- A row of words of a call's own. -/
def OwnW (W : World) (base : Nat) (v : Value) (xs : List Nat) : Prop := W.ownsRow base 67 1 v xs.length (wordsV xs)
theorem OwnW.nil (W : World) (base : Nat) : OwnW W base (.slice none 0 0) [] := World.ownsRow_nil W base _ 1
theorem OwnW.words {W : World} {base : Nat} {v : Value} {xs : List Nat} (h : OwnW W base v xs) (hx : ∀ x ∈ xs, x < 18446744073709551616) : WordsAt W v xs := by
  obtain ⟨h1, h2⟩ := h
  rcases h2 with ⟨rfl, h0⟩ | ⟨g, cap, cur, rfl, hg, hh, hn, hc, hs, ht⟩
  · have : xs = [] := List.eq_nil_of_length_eq_zero h0
    subst this
    exact NumsAt.nil _ _ W
  · refine ⟨_, _, rfl, hn, by unfold maxLen at hc; omega, fun e => (by cases e), hx, fun _ => ⟨g, 0, rfl, heap_lt hh, fun j x hx => ?_⟩⟩
    rw [Nat.zero_add, cell_of_row W g j _ _ (0, 0) hh]
    have hj : j < xs.length := (List.getElem?_eq_some_iff.1 hx).1
    have : (cur.toList.take (xs.length * 1))[j]? = some (.int .u64 x) := by rw [ht]; simp [wordsV, hx]
    rw [List.getElem?_take, if_pos (by omega)] at this
    rw [← this]
    simp
theorem OwnW.base {W : World} {base : Nat} {v : Value} {xs : List Nat} (h : OwnW W base v xs) : ∀ k, v.ownBlock = some k → base ≤ k := by
  intro k hk
  rcases h.2 with ⟨h1, _⟩ | ⟨g, cap, cur, h1, h2, _⟩
  · subst h1; cases hk
  · subst h1; cases hk; exact h2
theorem OwnW.form {W : World} {base : Nat} {v : Value} {xs : List Nat} (h : OwnW W base v xs) : ∃ A k, v = .slice A xs.length k := by
  rcases h.2 with ⟨h1, h2⟩ | ⟨g, cap, _, h1, _⟩
  · exact ⟨none, 0, by rw [h1, h2]⟩
  · exact ⟨_, _, h1⟩
theorem OwnW.elsewhere {W : World} {base : Nat} {v : Value} {xs : List Nat} (h : OwnW W base v xs) {b o : Nat} (hb : b < base) (u : Value) : OwnW (W.setCell ⟨b, o, none⟩ u) base v xs := by
  refine ⟨h.1, ?_⟩
  rcases h.2 with h1 | ⟨g, cap, cur, h1, h2, h3, r⟩
  · exact .inl h1
  · exact .inr ⟨g, cap, cur, h1, h2, (Below.heap_setCell _ _ _ _ (by show g ≠ b; omega)).trans h3, r⟩

/-- Encode's closure behind i fields: the command as it was, the numbers so far. -/
structure EncI (m n : Nat) (c : Cmd8) (fs : List Nat) (w : World) (i : Nat) (W : World) : Prop where
  cmd : CmdAt W m c
  box : ∃ v, Boxed W n 66 v ∧ OwnW W (n + 1) v (numsC c (fs.take i))
  below : Below n w W

theorem numsC_step {c : Cmd8} {fs : List Nat} {i j : Nat} (h : fs[i]? = some j) : numsC c (fs.take (i + 1)) = numsC c (fs.take i) ++ [(c j).toNat] := by
  rw [List.take_add_one, h]
  simp [numsC]
theorem wordsV_snoc (xs : List Nat) (x : Nat) : wordsV (xs ++ [x]) = wordsV xs ++ [.int .u64 x] := by simp [wordsV]

set_option maxRecDepth 100000 in
set_option maxHeartbeats 2000000 in
theorem enc_step (m n : Nat) (hmn : m < n) (c : Cmd8) (fs : List Nat) (hl : fs.length ≤ 100) (hf : ∀ j ∈ fs, j < 8) (hc : ∀ j ∈ fs, 0 ≤ c j ∧ c j ≤ 2147483647) (w : World) :
    StepI 30 #[.pointer (some ⟨n, 0, none⟩)] m fs (EncI m n c fs w) := by
  intro i j W hij ⟨h1, ⟨v, h2, h3⟩, h4⟩
  obtain ⟨i0, hi, hz0, hz1, hz2⟩ := info_parts Tryd.infoU
  have hil : i < 100 := by have := (List.getElem?_eq_some_iff.1 hij).1; omega
  have hm := List.mem_of_getElem? hij
  have e1 := h1.cell (hf j hm)
  have e2 := h2.cell
  have f2 := h2.frozen
  have hlt2 := h2.lt
  have hlt1 := h1.lt
  obtain ⟨q, hq⟩ : ∃ q : Nat, c j = (q : Int) := ⟨(c j).toNat, by have := hc j hm; omega⟩
  have hq2 : q ≤ 2147483647 := by have := hc j hm; omega
  have hqw : IntKind.u64.wrap (q : Int) = (q : Int) := by rw [IntKind.wrap_u64]; omega
  have HT := Lib.hid (numsC_step (c := c) hij)
  rw [hq] at e1
  have hqt : (c j).toNat = q := by omega
  rw [hqt] at HT
  have hnl : (numsC c (fs.take i)).length ≤ i := by unfold numsC; rw [List.length_map, List.length_take]; omega
  obtain ⟨A, k, rfl⟩ := h3.form
  have H1 := Lib.hid h1
  have H2 := Lib.hid h2
  have H3 := Lib.hid h3
  have H4 := Lib.hid h4
  have hob := h3.base
  generalize numsC c (fs.take i) = xs at *
  clear h1 h2 h3 h4 hij hm hq hqt hc
  go_enter Tryd.func30, Tryd.ntmps30
  go_wp2_with fail
  refine wp_region_N (S1 := fun _ => True) (S2 := fun W' => W'.cell? ⟨n, 0, none⟩ = some (.slice A xs.length k) ∧ W'.cell? ⟨m, j, none⟩ = some (.int .i64 q)) (N := fun i => i != 7) (by kernel_rfl) ?_
  change wpAnyN _ _ _ _ _ _ _ 8 (Array.replicate 8 false) _ _
  refine wpAnyN_take true (i := 0) (v := .slice A xs.length k) rfl (by kernel_rfl) (by kernel_rfl) (by kernel_rfl) (fun _ _ _ h => h) (.inl ⟨by kernel_rfl, fun W hS => ?_⟩) ⟨trivial, fun h => ⟨e2, e1⟩⟩ ?_
  · simp [execOp, Act.eval, go_sem, (hS.2 rfl).1]
  refine wpAnyN_take false (i := 1) (v := .pointer (some ⟨m, j, none⟩)) rfl (by kernel_rfl) (by kernel_rfl) (by kernel_rfl) (fun _ _ _ h => h) (.inl ⟨by kernel_rfl, fun W hS => ?_⟩) ⟨trivial, fun h => (by cases h)⟩ ?_
  · simp [execOp, Act.eval, Act.put, go_sem]
  refine wpAnyN_take false (i := 2) (v := .pointer (some ⟨m, j, none⟩)) rfl (by kernel_rfl) (by kernel_rfl) (by kernel_rfl) (fun _ _ _ h => h) (.inl ⟨by kernel_rfl, fun W hS => ?_⟩) ⟨trivial, fun h => (by cases h)⟩ ?_
  · simp [execOp, Act.eval, Act.put, go_sem]
  refine wpAnyN_take true (i := 3) (v := .int .i64 q) rfl (by kernel_rfl) (by kernel_rfl) (by kernel_rfl) (fun _ _ _ h => h) (.inl ⟨by kernel_rfl, fun W hS => ?_⟩) ⟨trivial, fun h => ⟨e2, e1⟩⟩ ?_
  · simp [execOp, Act.eval, Act.put, go_sem, (hS.2 rfl).2]
  refine wpAnyN_take false (i := 4) (v := .int .u64 q) rfl (by kernel_rfl) (by kernel_rfl) (by kernel_rfl) (fun _ _ _ h => h) (.inl ⟨by kernel_rfl, fun W hS => ?_⟩) ⟨trivial, fun h => (by cases h)⟩ ?_
  · simp [execOp, Act.eval, Act.put, go_sem, hqw]
  refine wpAnyN_step (i := 5) (by kernel_rfl) rfl (by kernel_rfl) ?_
  intro K' hK
  simp only [Act.put]
  go_simp
  refine hK.out _ _ trivial (fun _ h => ⟨?_, ?_⟩) ?_
  · show (W.alloc _).cell? _ = _
    rw [World.cell?_alloc_lt _ _ ⟨n, 0, none⟩ hlt2]; exact e2
  · show (W.alloc _).cell? _ = _
    rw [World.cell?_alloc_lt _ _ ⟨m, j, none⟩ hlt1]; exact e1
  refine wpAnyN_step (i := 6) (by kernel_rfl) rfl (by kernel_rfl) ?_
  intro K' hK
  generalize hW2 : (W.alloc (.cells #[.int .u64 q] 67)).drew = W2 at *
  have hb2 : Below (n + 1) W W2 := by rw [← hW2]; exact ((Below.refl (n + 1) W).alloc (by omega) _).drew
  have H32 : W2.ownsRow (n + 1) 67 1 (.slice A xs.length k) xs.length (wordsV xs) := by rw [← hW2]; exact World.ownsRow.alloc H3.out _
  have hnew : W2.cell? ⟨W.heap.size, 0, none⟩ = some (.int .u64 q) := by rw [← hW2]; exact (Boxed.new W 67 (.int .u64 q)).cell
  have hz2' : W2.heap.size = W.heap.size + 1 := by rw [← hW2]; exact World.size_alloc _ _
  refine wp_append_lies _ _ _ 66 rfl (n + 1) 67 i0 (.int .u64 0) 1 8 Tryd.underlying66 hi hz0 hz1 hz2 rfl (by decide) _ xs.length (wordsV xs) rfl H32 ⟨W.heap.size, 0, none⟩ 1 1 [.int .u64 q] rfl rfl ?n1 ?n2 (by decide) (by unfold maxLen; omega) (by omega) (by omega) (W.heap.size + 1) hz2' ?_
  case n1 =>
    intro jj u hj
    rcases jj with _ | jj
    · simp at hj; subst hj; simpa [Addr.add] using hnew
    · simp at hj
  case n2 => intro u hu; simp at hu; subst hu; rfl
  intro g cap w3 hown3 hgrow hat hlt3
  have hne1 : (Value.slice A xs.length k).ownBlock ≠ some n := fun e => by have := hob _ e; omega
  have hnem : (Value.slice A xs.length k).ownBlock ≠ some m := fun e => by have := hob _ e; omega
  have k2 : w3.cell? ⟨n, 0, none⟩ = some (.slice A xs.length k) := by
    rw [hgrow.cell_far ⟨n, 0, none⟩ (by show n < _; omega) (Ne.symm hne1), ← hW2]
    show (W.alloc _).cell? _ = _
    rw [World.cell?_alloc_lt _ _ ⟨n, 0, none⟩ hlt2]; exact e2
  refine hK.out _ _ trivial (fun _ h => ⟨k2, ?_⟩) ?_
  · rw [hgrow.cell_far ⟨m, j, none⟩ (by show m < _; omega) (Ne.symm hnem)]; exact h.2
  have B2 : Boxed W2 n 66 (.slice A xs.length k) := by rw [← hW2]; exact H2.out.alloc _
  have C2 : CmdAt W2 m c := by rw [← hW2]; exact H1.out.keep ((Below.refl _ W).alloc (Nat.le_refl _) _).drew
  have B3 := B2.kept hgrow (Ne.symm hne1)
  have C3 : CmdAt w3 m c := (hgrow.block m (by omega) (Ne.symm hnem)).trans C2
  have hb3 : Below n w w3 := H4.out.trans ((hb2.mono (by omega)).trans (below_grown (B := n) hgrow (by omega) (fun r e => by have := hob r e; omega)))
  have k3 := B3.frozen
  have HC3 := Lib.hid C3
  have HB3 := Lib.hid B3
  have HBL := Lib.hid hb3
  have HO3 := Lib.hid hown3
  clear hgrow hat hown3 hnew H32 B2 C2 B3 C3 hb3 hne1 hnem hb2 hob hW2
  refine wpAnyN_step (i := 7) (by kernel_rfl) rfl (by kernel_rfl) ?_
  intro K' hK
  try simp only [Act.put]
  go_simp
  refine hK.out _ _ trivial (fun h => by cases h) ?_
  refine wpAnyN_done (by kernel_rfl) ?_
  try simp only [Act.put]
  try go_simp
  go_wp2
  refine bodyPost_end (results_none rfl _ _ _) rfl ?_
  refine ⟨rfl, CmdAt.elsewhere (b' := n) (o := 0) HC3.out (by omega) _, ⟨_, HB3.out.set _, ?_⟩, HBL.out.setCell (p := ⟨n, 0, none⟩) (Nat.le_refl _) _⟩
  rw [HT.out]
  refine OwnW.elsewhere (b := n) (o := 0) ?_ (by omega) _
  unfold OwnW
  rw [List.length_append, wordsV_snoc]
  exact HO3.out

theorem firstK_wrong {c : Cmd8} {fs : List Nat} (h : firstK (fun i => wrongN (c (atF fs i))) fs.length = []) : ∀ j ∈ fs, 0 ≤ c j ∧ c j ≤ 2147483647 := by
  intro j hj
  obtain ⟨i, hi, rfl⟩ := List.getElem_of_mem hj
  rcases firstK_cases (fun i => wrongN (c (atF fs i))) fs.length with ⟨_, h2⟩ | ⟨_, _, _, _, h2⟩
  · have : wrongN (c (atF fs i)) = 0 := h2 i hi
    rw [atF_eq (List.getElem?_eq_getElem hi)] at this
    unfold wrongN at this
    split at this
    · cases this
    · omega
  · rw [h] at h2; cases h2
/-- A command is right. -/
theorem right_iff {c : Cmd8} (h : checkK c = []) : ∃ fs, fieldsT (c 0) = some fs ∧ (∀ j ∈ fs, 0 ≤ c j ∧ c j ≤ 2147483647) ∧ eq8 (onlyC c fs) c = true := by
  unfold checkK at h
  cases hfs : fieldsT (c 0) with
  | none => rw [hfs] at h; cases h
  | some fs =>
    rw [hfs] at h
    simp only at h
    by_cases h1 : firstK (fun i => wrongN (c (atF fs i))) fs.length = []
    · rw [if_neg (by simp [h1])] at h
      refine ⟨fs, rfl, firstK_wrong h1, ?_⟩
      cases h2 : eq8 (onlyC c fs) c with
      | true => rfl
      | false => rw [h2] at h; cases h
    · rw [if_pos h1] at h; cases h

/-- What Encode answers. -/
def EncP (c : Cmd8) (w : World) (e : Ending) (w' : World) : Prop :=
  ∃ v u, e = .returned (.tuple #[v, u]) ∧ Below w.heap.size w w' ∧ ((checkK c = [] ∧ u = .nilIface ∧ Own w' w.heap.size v (encC c)) ∨ (checkK c ≠ [] ∧ v = .slice none 0 0 ∧ ErrAt w.heap.size w' u (checkK c)))

set_option maxRecDepth 100000 in
set_option maxHeartbeats 2000000 in
theorem encode_any (eg1 : EG 27) (eg2 : EG 41) (eg3 : EG 22) (eg4 : EG 30) (c : Cmd8) (w : World) (hg : EType w) :
    Calls Tryd.prog 14 #[.agg (cmdA c)] w (EncP c w) := by
  have b1 : Below w.heap.size w (w.alloc (.cells (cmdA c) 23)) := (Below.refl _ _).alloc (Nat.le_refl _) _
  have hc : CmdAt (w.alloc (.cells (cmdA c) 23)) w.heap.size c := World.alloc_heap_new _ _
  have HK := Lib.hid (check_any eg1 eg2 eg3 c _ (hg.later b1))
  have HC := Lib.hid hc
  have HB := Lib.hid b1
  obtain ⟨d0, d1, d2, d3, d4, d5, d6, d7⟩ := hc.eight
  clear b1 hc hg
  go_enter Tryd.func14, Tryd.ntmps14
  go_wp2_with fail
  refine HK.out.mono ?_
  rintro e w1 ⟨v, rfl, he, hb1⟩
  have hev := he.cases
  have HE := Lib.hid (he.weaken (lo' := w.heap.size) (by simp))
  have hc1 := HC.out.keep hb1
  have HC1 := Lib.hid hc1
  have HB1 := Lib.hid (HB.out.trans (hb1.mono (by simp)))
  have hsz := hb1.size
  have hwz : (w.alloc (.cells (cmdA c) 23)).heap.size = w.heap.size + 1 := World.size_alloc _ _
  clear he hb1 d0 d1 d2 d3 d4 d5 d6 d7
  rcases hev with ⟨rfl, hk⟩ | ⟨b', rfl, hk⟩
  · have hn := fun W => run_neq_nil_nil (P := Tryd.prog) W 27 (by kernel_rfl)
    obtain ⟨fs, hfs, hin, _⟩ := right_iff hk
    have HF := Lib.hid hfs
    have HI := Lib.hid hin
    have HCK := Lib.hid hk
    clear hfs hin hk
    go_wp2_with fail
    have hb2 : Below w1.heap.size w1 (w1.alloc (.cells #[.slice none 0 0] 66)) := (Below.refl _ _).alloc (Nat.le_refl _) _
    have hc2 := HC1.out.keep hb2
    have hm : w.heap.size < w1.heap.size := HC1.out.lt
    have HI0 := Lib.hid (show EncI w.heap.size w1.heap.size c fs w1 0 (w1.alloc (.cells #[.slice none 0 0] 66)) from
      ⟨hc2, ⟨_, Boxed.new w1 _ _, OwnW.nil _ _⟩, hb2⟩)
    refine (each_any 30 _ eg4 w.heap.size (c 0) fs HF.out _ (hc2.cell (j := 0) (by decide)) _ HI0.out (enc_step w.heap.size w1.heap.size hm c fs (by have := fieldsT_len HF.out; omega) (fun j hj => (fieldsT_lt HF.out j hj).2) HI.out w1)).mono ?_
    rintro e w2 ⟨rfl, h1, ⟨v, h2, h3⟩, h4⟩
    rw [List.take_length] at h3
    have HW := Lib.hid (h3.words (fun x hx => by
      obtain ⟨j, hj, rfl⟩ := List.mem_map.1 hx
      have := HI.out j hj
      omega))
    have HB2 := Lib.hid (HB1.out.trans (h4.mono HB1.out.size))
    have hop : 1 ≤ c 0 ∧ c 0 ≤ 17 := opsT_byte (fieldsT_some HF.out)
    obtain ⟨op, hop0⟩ : ∃ op : Nat, c 0 = (op : Int) := ⟨(c 0).toNat, by omega⟩
    have e0 := h1.cell (j := 0) (by decide)
    rw [hop0] at e0
    have hopw : IntKind.u8.wrap (op : Int) = (op : Int) := by rw [IntKind.wrap_u8]; omega
    have k2 := h2.cell
    have hlt2 := h2.lt
    have henc := Lib.hid (show encC c = [op] ++ encs (numsC c fs) by unfold encC; rw [HF.out]; simp [hop0])
    have hnl : (numsC c fs).length ≤ 4 := by unfold numsC; rw [List.length_map]; exact fieldsT_len HF.out
    have hsz2 := HB2.out.size
    have HOP := Lib.hid (show op < 256 by omega)
    clear h1 h2 h3 h4 hc2 hb2 hc1 hop hop0
    go_wp2_with fail
    have hb3 : Below w2.heap.size w2 (w2.alloc (.cells #[.int .u8 op] 5)) := (Below.refl _ _).alloc (Nat.le_refl _) _
    have hlit : BytesAt (w2.alloc (.cells #[.int .u8 op] 5)) (.slice (some ⟨w2.heap.size, 0, none⟩) 1 1) [op] :=
      (lit_own w2 [op] (fun x h => by obtain rfl := List.mem_singleton.1 h; exact HOP.out) (by simp) w2.heap.size (Nat.le_refl _)).bytes
    refine (put_any _ v [op] (numsC c fs) _ hlit (HW.out.keep hb3) (by simp) (by omega)).mono ?_
    rintro e w3 ⟨v3, rfl, ho3, hb4⟩
    have HO3 := Lib.hid (ho3.weaken (base' := w.heap.size) (by simp; omega))
    have HB4 := Lib.hid (HB2.out.trans ((hb3.trans (hb4.mono (by simp))).mono HB2.out.size))
    clear hb3 hlit ho3 hb4
    go_wp2
    go_ret2
    exact ⟨_, _, rfl, HB4.out, .inl ⟨HCK.out, rfl, by rw [henc.out]; exact HO3.out⟩⟩
  · have hn := fun W x => run_neq_held_nil (P := Tryd.prog) W 27 80 x (by kernel_rfl)
    have HCK := Lib.hid hk
    clear hk hc1
    go_wp2
    go_ret2
    exact ⟨_, _, rfl, HB1.out, .inr ⟨HCK.out, rfl, HE.out⟩⟩
end Go.Proofs.YtnddojngbolbfaaDoor
