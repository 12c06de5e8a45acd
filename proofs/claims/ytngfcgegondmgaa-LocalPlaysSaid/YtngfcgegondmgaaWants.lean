/-
  Wants and Total of a local.
  Conditions: the local lies in memory; its numbers are small.
-/
import Derived.Test.YtngfcgegondmgaaFind
import Derived.Test.YtngfcgegondmgaaTotals
import Derived.Laws.MakeOwn
set_option linter.unusedVariables false
namespace Go.Proofs.Ytngfcgegondmgaa
open Go.RowKit Go.Sort

theorem spans_zero : ∀ n : Nat, spansCells (List.replicate n ((0 : Int), (0 : Int))) = List.replicate (n * 2) (.int .i64 0)
  | 0 => rfl
  | n + 1 => by rw [List.replicate_succ, spansCells_cons, spans_zero n, show (n + 1) * 2 = n * 2 + 1 + 1 by omega, List.replicate_succ, List.replicate_succ]
theorem rowC_zero : ∀ n : Nat, rowC (List.replicate n (⟨0, 0, 0⟩ : Lm)) = List.replicate (n * 3) (.int .i64 0)
  | 0 => rfl
  | n + 1 => by
    rw [List.replicate_succ, rowC_cons, rowC_zero n, show (n + 1) * 3 = n * 3 + 1 + 1 + 1 by omega, List.replicate_succ, List.replicate_succ, List.replicate_succ]
    rfl
theorem made_two (m : Nat) : madeCells #[.int .i64 0, .int .i64 0] m = (List.replicate m (Value.int .i64 0)).toArray := by
  apply Array.ext
  · simp [madeCells]
  · intro i h1 h2
    have h4 : i % 2 = 0 ∨ i % 2 = 1 := by omega
    rcases h4 with h | h <;> simp [madeCells, h]
theorem made_three (m : Nat) : madeCells #[.int .i64 0, .int .i64 0, .int .i64 0] m = (List.replicate m (Value.int .i64 0)).toArray := by
  apply Array.ext
  · simp [madeCells]
  · intro i h1 h2
    have h4 : i % 3 = 0 ∨ i % 3 = 1 ∨ i % 3 = 2 := by omega
    rcases h4 with h | h | h <;> simp [madeCells, h]
theorem mk_wants (W : World) (n : Nat) (h : n ≤ 1000) : (Instr.makeSlice 22 (.int .i64 (n : Int)) (.int .i64 (n : Int))).run Try.prog W = .ok (.slice (some ⟨W.heap.size, 0, none⟩) n n) (W.alloc (.cells (spansCells (List.replicate n ((0 : Int), (0 : Int)))).toArray 50)) := by
  obtain ⟨i, hi, e⟩ := Option.map_eq_some_iff.1 Try.infoSpan
  simp only [Prod.mk.injEq] at e
  obtain ⟨e1, e2, e3⟩ := e
  have hr := run_make (P := Try.prog) W 22 50 i (.agg #[.int .i64 0, .int .i64 0]) Try.underlying22 hi e1 .i64 .i64 n n (by omega) (Int.le_refl _) (by rw [e3]; omega) (by omega)
  rw [hr, e2]
  simp only [Int.toNat_natCast]
  rw [show (Value.agg #[.int .i64 0, .int .i64 0]).cells = #[.int .i64 0, .int .i64 0] from rfl, made_two, spans_zero]
theorem mk_members (W : World) (n : Nat) (h : n ≤ 1000) : (Instr.makeSlice 60 (.int .i64 (n : Int)) (.int .i64 (n : Int))).run Try.prog W = .ok (.slice (some ⟨W.heap.size, 0, none⟩) n n) (W.alloc (.cells (rowC (List.replicate n (⟨0, 0, 0⟩ : Lm))).toArray 67)) := by
  obtain ⟨i, hi, e⟩ := Option.map_eq_some_iff.1 Try.infoMb
  simp only [Prod.mk.injEq] at e
  obtain ⟨e1, e2, e3⟩ := e
  have hr := run_make (P := Try.prog) W 60 67 i (.agg #[.int .i64 0, .int .i64 0, .int .i64 0]) Try.underlying60 hi e1 .i64 .i64 n n (by omega) (Int.le_refl _) (by rw [e3]; omega) (by omega)
  rw [hr, e2]
  simp only [Int.toNat_natCast]
  rw [show (Value.agg #[.int .i64 0, .int .i64 0, .int .i64 0]).cells = #[.int .i64 0, .int .i64 0, .int .i64 0] from rfl, made_three, rowC_zero]
theorem own_made (W : World) (base e size n : Nat) (xs : List Value) (hx : xs.length = n * size) (hb : base ≤ W.heap.size) (hn : n ≤ 1000) :
    (W.alloc (.cells xs.toArray e)).ownsRow base e size (.slice (some ⟨W.heap.size, 0, none⟩) n n) n xs :=
  ⟨hx, .inr ⟨W.heap.size, n, xs.toArray, rfl, hb, heap_alloc_new W _, Nat.le_refl _, by unfold maxLen; omega, by simpa using hx, by rw [← hx]; simp⟩⟩
/-- Under way: the first k are right. -/
theorem same_till {α : Type} {D L : List α} {k : Nat} {x : α} (h : ∀ (j : Nat), j < k → D[j]? = L[j]?) (hk : L[k]? = some x) (hD : k < D.length) : ∀ (j : Nat), j < k + 1 → (D.set k x)[j]? = L[j]? := fun j hj => by
  by_cases e : j = k
  · subst e
    rw [List.getElem?_set_self hD, hk]
  · rw [List.getElem?_set_ne (fun h => e h.symm)]
    exact h j (by omega)
theorem same_end {α : Type} {D L : List α} (h : ∀ (j : Nat), j < L.length → D[j]? = L[j]?) (hl : D.length = L.length) : D = L := by
  apply List.ext_getElem?
  intro j
  by_cases hj : j < L.length
  · exact h j hj
  · rw [List.getElem?_eq_none (by omega), List.getElem?_eq_none (by omega)]
theorem mb_new (w : World) (B : Nat) (hB : w.heap.size = B) (m : Lm) : let w1 := w.alloc (.cells #[.int .i64 m.u, .int .i64 m.s, .int .i64 m.g] 67); w1.cell? ⟨B, 0, none⟩ = some (.int .i64 m.u) ∧ w1.cell? ⟨B, 1, none⟩ = some (.int .i64 m.s) ∧ w1.cell? ⟨B, 2, none⟩ = some (.int .i64 m.g) := by
  subst hB
  exact ⟨World.cell?_alloc_new (w := w) _ _ 0, World.cell?_alloc_new (w := w) _ _ 1, World.cell?_alloc_new (w := w) _ _ 2⟩

set_option maxRecDepth 100000 in
set_option maxHeartbeats 2000000 in
theorem wants_any (W : World) (rb : Nat) (mv : Value) (l : List Lm) (h : LocAt W rb mv l) (hl : l.length ≤ 1000) :
    Calls Try.prog 20 #[.pointer (some ⟨rb, 0, none⟩)] W (RetO W.heap.size 50 (wantsT l) W) := by
  have HR := Lib.hid h
  obtain ⟨c1, _⟩ := h.heads
  obtain ⟨A, c, rfl⟩ := h.form
  obtain ⟨n, hn⟩ : ∃ n, l.length = n := ⟨_, rfl⟩
  rw [hn] at HR h c1 hl
  have HN := Lib.hid hn
  have hmk := mk_wants W n hl
  obtain ⟨b, hb⟩ : ∃ b, W.heap.size = b := ⟨_, rfl⟩
  obtain ⟨w1, hw1⟩ : ∃ w1, W.alloc (.cells (spansCells (List.replicate n ((0 : Int), (0 : Int)))).toArray 50) = w1 := ⟨_, rfl⟩
  have HB1 : Hid (Below W.heap.size W w1) := by rw [← hw1]; exact (Below.refl _ W).alloc (Nat.le_refl _) _
  have HO1 : Hid (w1.ownsRow W.heap.size 50 2 (.slice (some ⟨b, 0, none⟩) n n) n (spansCells (List.replicate n ((0 : Int), (0 : Int))))) := by
    rw [← hw1, ← hb]
    exact own_made W _ _ 2 n _ (by rw [spansCells_length, List.length_replicate]) (Nat.le_refl _) hl
  rw [hw1, hb] at hmk
  have HSZ := Lib.hid hb
  have HR1 := Lib.hid (HR.out.below HB1.out)
  obtain ⟨c1', _⟩ := HR1.out.heads
  have hn0 : (0 : Int) ≤ (n : Int) := by omega
  clear h hn hw1 hb
  go_enter Try.func20, Try.ntmps20
  go_wp2_with fail
  go_loopg [4, 5, 19] n (fun gg _ _ s wr => ∃ (k : Nat) (D : List Sp), k ≤ n ∧ gg = n - k ∧ s = .int .i64 k ∧ Below W.heap.size W wr ∧ D.length = n ∧ wr.ownsRow W.heap.size 50 2 (.slice (some ⟨b, 0, none⟩) n n) n (spansCells D) ∧ ∀ (j : Nat), j < k → D[j]? = (wantsT l)[j]?)
  case atStart => exact ⟨0, _, Nat.zero_le _, by omega, rfl, HB1.out, List.length_replicate, HO1.out, fun j hj => absurd hj (Nat.not_lt_zero _)⟩
  case round =>
    obtain ⟨k, D, hk, hg, rfl, hbw, hD, hown, hsame⟩ := hrel
    have HB := Lib.hid hbw
    have HG := Lib.hid hg
    have HD := Lib.hid hD
    have HO := Lib.hid hown
    have HS := Lib.hid hsame
    have HRR := Lib.hid (HR.out.below hbw)
    clear hbw hg hD hown hsame c1 c1'
    by_cases hlt : k < n
    · have hltz : (k : Int) < (n : Int) := by omega
      have hk0 : (0 : Int) ≤ (k : Int) := by omega
      obtain ⟨m, hm⟩ := ex_at (xs := l) (k := k) (by rw [HN.out]; exact hlt)
      have HM : Hid ((wantsT l)[k]? = some ((m.u : Int), (m.s : Int))) := by unfold wantsT; rw [List.getElem?_map, hm]; rfl
      obtain ⟨g, cap, hA, hgl, hgne, _, _, ⟨a0, a1, a2⟩, _⟩ := HRR.out.at_ hm
      injection hA with hA hA1 hA2; clear hA1 hA2
      subst hA
      obtain ⟨m1, m2, m3⟩ := m
      simp only at a0 a1 a2 HM
      obtain ⟨w2, hw2⟩ : ∃ w2, wr.alloc (.cells #[.int .i64 m1, .int .i64 m2, .int .i64 m3] 67) = w2 := ⟨_, rfl⟩
      obtain ⟨N, hN⟩ : ∃ N, wr.heap.size = N := ⟨_, rfl⟩
      have hb2 : Below wr.heap.size wr w2 := by rw [← hw2]; exact (Below.refl _ wr).alloc (Nat.le_refl _) _
      obtain ⟨n0, n1, n2⟩ := mb_new wr N hN ⟨m1, m2, m3⟩
      simp only [hw2] at n0 n1 n2
      have HO2 := Lib.hid (own_below5 HO.out hb2)
      have HB2 := Lib.hid (HB.out.trans (hb2.mono HB.out.size))
      have HOD : Hid (w2.ownsRow W.heap.size 50 2 (.slice (some ⟨b, 0, none⟩) n n) D.length (spansCells D)) := by rw [HD.out]; exact HO2.out
      obtain ⟨q, hq⟩ := ex_at (xs := D) (k := k) (by rw [HD.out]; exact hlt)
      have hown' : w2.ownsRow W.heap.size 50 2 (.slice (some ⟨b, 0, none⟩) D.length n) D.length (spansCells D) := by rw [HD.out]; exact HO2.out
      obtain ⟨g', cap', hA', _, _, _, _, hat, hfr⟩ := own_lies hown' (by rw [HD.out]; omega)
      injection hA' with hA' hA1 hA2; clear hA1 hA2
      injection hA' with hA'
      injection hA' with hA'
      subst hA'
      obtain ⟨t0, t1⟩ := hat k q hq
      have f0 := hfr (k * 2) (by rw [HD.out]; omega)
      have f1 := hfr (k * 2 + 1) (by rw [HD.out]; omega)
      have HO3 : Hid (((w2.setCell ⟨b, k * 2, none⟩ (.int .i64 m1)).setCell ⟨b, k * 2 + 1, none⟩ (.int .i64 m2)).ownsRow W.heap.size 50 2 (.slice (some ⟨b, 0, none⟩) n n) n (spansCells (D.set k ((m1 : Int), (m2 : Int))))) := by
        rw [← spansCells_set D k q ((m1 : Int), (m2 : Int)) hq]
        exact own_set (own_set HO2.out _) _
      clear hb2 hm hat hfr hq hown'
      go_wp2_with fail
      go_roundg (n - (k + 1))
      case measure => have := HG.out; omega
      case rel =>
        have hbb : W.heap.size ≤ b := Nat.le_of_eq HSZ.out
        refine ⟨k + 1, _, Nat.succ_le_of_lt hlt, rfl, by go_num, ?_, ?_, HO3.out, same_till HS.out HM.out (by rw [HD.out]; exact hlt)⟩
        · exact (HB2.out.setCell (p := ⟨b, k * 2, none⟩) hbb _).setCell (p := ⟨b, k * 2 + 1, none⟩) hbb _
        · rw [List.length_set]; exact HD.out
    · have hltz : ¬ (k : Int) < (n : Int) := by omega
      have hkn : k = n := by omega
      have hwl : (wantsT l).length = n := by unfold wantsT; rw [List.length_map]; exact HN.out
      have HDE : Hid (D = wantsT l) := same_end (fun j hj => HS.out j (by omega)) (by rw [HD.out, hwl])
      have HEND : Hid (∀ e, e = .returned (.slice (some ⟨b, 0, none⟩) n n) → RetO W.heap.size 50 (wantsT l) W e wr) := fun e he => ⟨_, he, by rw [hwl, ← HDE.out]; exact HO.out, HB.out⟩
      go_wp2
      go_ret
      exact HEND.out _ rfl
theorem wants_nil (W : World) : Calls Try.prog 20 #[.pointer none] W (fun e w' => e = .returned (.slice none 0 0) ∧ W = w') := by
  go_enter Try.func20, Try.ntmps20
  go_wp2
  go_ret
  exact ⟨rfl, rfl⟩

/-! ### Total -/
theorem totL_want : ∀ (l : List Lm) (t : Int), 0 ≤ t → t + (sumS l : Int) ≤ 9223372036854775807 → totL t (wantsT l) = some (t + (sumS l : Int))
  | [], t, _, _ => by show some t = some (t + ((0 : Nat) : Int)); simp
  | m :: l, t, h1, h2 => by
    have e : sumS (m :: l) = m.s + sumS l := rfl
    rw [e] at h2
    have ha : addO t (m.s : Int) = some (t + (m.s : Int)) := by unfold addO; rw [if_pos (by omega)]
    show totL t (((m.u : Int), (m.s : Int)) :: wantsT l) = _
    rw [totL_some (t' := t + (m.s : Int)) ha, totL_want l _ (by omega) (by omega), e]
    congr 1
    omega
theorem totT_want (l : List Lm) (h : sumS l ≤ 1000000) : totT (wantsT l) = some (sumS l : Int) := by
  have := totL_want l 0 (Int.le_refl _) (by omega)
  rwa [Int.zero_add] at this
theorem ints_want {G : Nat} {l : List Lm} (h : OkL G l) : IntsS (wantsT l) := by
  intro s hs
  obtain ⟨m, hm, rfl⟩ := List.mem_map.1 hs
  have h1 := (h.unit m hm).2
  have h2 := h.s64 hm
  exact ⟨⟨by show _ ≤ (m.u : Int); omega, by show (m.u : Int) ≤ _; omega⟩, ⟨by show _ ≤ (m.s : Int); omega, by show (m.s : Int) ≤ _; omega⟩⟩
theorem total_loc {G : Nat} (W : World) (rb : Nat) (mv : Value) (l : List Lm) (h : LocAt W rb mv l) (ho : OkL G l) :
    Calls Try.prog 21 #[.pointer (some ⟨rb, 0, none⟩)] W (RetB (.int .i64 (sumS l : Nat)) W) := by
  have hlen := ho.len
  have HW := Lib.hid (wants_any W rb mv l h (by omega))
  have hwl : (wantsT l).length ≤ 100000 := by unfold wantsT; rw [List.length_map]; omega
  have HT := Lib.hid (fun (w : World) (v : Value) (hv : SpansAt w v (wantsT l)) => total_any v (wantsT l) w hv (ints_want ho))
  have hf := ho.full
  rw [totT_want l (by omega)] at HT
  have HWL := Lib.hid hwl
  obtain ⟨S, hS⟩ : ∃ S, sumS l = S := ⟨_, rfl⟩
  rw [hS] at HT ⊢
  clear h ho hlen hwl hf hS
  go_enter Try.func21, Try.ntmps21
  go_wp2_with fail
  refine HW.out.mono ?_
  rintro e w1 ⟨v, rfl, hown, hb⟩
  have HB := Lib.hid hb
  have HS := Lib.hid (spans_of_own hown HWL.out)
  clear hown hb
  go_wp2_with fail
  refine (HT.out _ _ HS.out).mono ?_
  rintro e w2 ⟨rfl, hb⟩
  have HB2 := Lib.hid (HB.out.trans (hb.mono HB.out.size))
  clear hb
  go_wp2
  go_ret
  exact ⟨rfl, HB2.out⟩
theorem total_nil (W : World) : Calls Try.prog 21 #[.pointer none] W (RetB (.int .i64 0) W) := by
  have HW := Lib.hid (wants_nil W)
  have HT := Lib.hid (fun (w : World) => total_any (.slice none 0 0) [] w (SpansAt.nil w) (fun s hs => by cases hs))
  go_enter Try.func21, Try.ntmps21
  go_wp2_with fail
  refine HW.out.mono ?_
  rintro e w1 ⟨rfl, rfl⟩
  go_wp2_with fail
  refine (HT.out _).mono ?_
  rintro e w2 ⟨rfl, hb⟩
  have HB2 := Lib.hid hb
  clear hb
  go_wp2
  go_ret
  exact ⟨rfl, HB2.out⟩
end Go.Proofs.Ytngfcgegondmgaa
