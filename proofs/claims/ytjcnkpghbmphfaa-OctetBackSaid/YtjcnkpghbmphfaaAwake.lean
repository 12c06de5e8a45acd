/-
  The page's examples come out.
  Conditions: none.
-/
import Derived.Test.YtjcnkpghbmphfaaNobody
import Derived.Test.YtjcnkpghbmphfaaOrders
set_option linter.unusedVariables false
namespace Go.Proofs.Ytjcnkpghbmphfaa
open Go.RowKit

theorem enc_300 : enc 300 = [172, 2] := by rw [enc_great (by decide), enc_small (by decide)]
theorem encs_12 : [7] ++ encs [1, 2] = [7, 1, 2] := by rw [encs_cons, encs_cons, encs_nil, enc_small (by decide), enc_small (by decide)]; rfl
theorem num_bad : numT [128, 0] 0 9 = (0, [], 3) := by
  have e : lead 0 0 [128, 0] = (0, 0) := by rw [lead_more (by decide) (by decide), lead_bad (by decide) (by decide) (.inl ⟨by decide, rfl⟩)]
  unfold numT
  rw [if_neg (by decide), e, if_pos rfl]
theorem words_lit (W : World) (xs : List Nat) (h : ∀ x ∈ xs, x < 18446744073709551616) (hl : xs.length ≤ 100000) :
    WordsAt (W.alloc (.cells (xs.map fun n : Nat => Value.int .u64 n).toArray 24)) (.slice (some ⟨W.heap.size, 0, none⟩) xs.length xs.length) xs := by
  refine ⟨_, _, rfl, Nat.le_refl _, by omega, fun e => (by cases e), h, fun _ => ⟨_, _, rfl, heap_lt (heap_alloc_new W _), fun j x hx => ?_⟩⟩
  rw [Nat.zero_add, cell_of_row _ W.heap.size j _ _ (0, 0) (heap_alloc_new W _)]
  simp [hx]
theorem own_slice {W : World} {base : Nat} {v : Value} {xs : List Nat} (h : Own W base v xs) {n : Nat} (hn : xs.length = n) : ∃ A c, v = .slice A n c := by
  subst hn
  obtain ⟨A, c, h, _⟩ := h.bytes
  exact ⟨A, c, h⟩
theorem over2 {a b c : World} (h : Below a.heap.size a b) (k : Below b.heap.size b c) : Below a.heap.size a c := h.trans (k.mono h.size)
theorem over {B : Nat} {a b c : World} (h : Below B a b ∧ B ≤ b.heap.size) (k : Below b.heap.size b c) : Below B a c ∧ B ≤ c.heap.size := ⟨h.1.trans (k.mono h.2), Nat.le_trans h.2 k.size⟩
theorem Apart.over {g B : Nat} {w0 w w' : World} (h0 : Below B w0 w) (h : Apart (fun k => k = g) w w') (hB : B ≤ w.heap.size) (hg : B ≤ g) : Below B w0 w' :=
  h0.trans (h.below hB (fun k hk e => by omega))

set_option maxRecDepth 100000 in
set_option maxHeartbeats 8000000 in
theorem awake_any (w : World) : Calls Try.prog 7 #[] w (RetB (.bool true) w) := by
  have HL0 := Lib.hid (lit_own w [128, 0] (by simp) (by simp) w.heap.size (Nat.le_refl _)).bytes
  have HB0 := Lib.hid (show Below w.heap.size w (w.alloc (.cells #[.int .u8 128, .int .u8 0] 5)) from (Below.refl _ _).alloc (Nat.le_refl _) _)
  have HNUM : Hid (∀ W, Calls Try.prog 8 #[.int .u64 300] W (RetO W.heap.size [172, 2] W)) := Lib.hid (fun W => by have h := num_any 300 W (by decide); rw [enc_300] at h; exact h)
  have HPUT : Hid (∀ v u W, BytesAt W v [7] → WordsAt W u [1, 2] → Calls Try.prog 10 #[v, u] W (RetO W.heap.size [7, 1, 2] W)) := Lib.hid (fun v u W hv hu => by have h := put_any v u [7] [1, 2] W hv hu (by simp) (by simp); rw [encs_12] at h; exact h)
  have HREAD : Hid (∀ g W, ReaderAt W g [128, 0] 0 → Calls Try.prog 13 #[.pointer (some ⟨g, 0, none⟩), .int .u64 9] W (Moved g (.int .u64 0) [] 3 W)) := Lib.hid (fun g W h => by have h := read_any g [128, 0] 0 9 W (by decide) h; rw [num_bad] at h; exact h)
  have HERR := Lib.hid (fun g W (h : ReaderAt W g [] 3) => err_any g [] 3 W h)
  go_enter Try.func7, Try.ntmps7
  go_wp2_with fail
  refine (open_any _ [128, 0] _ (by simp) HL0.out).mono ?_
  rintro e w1 ⟨g, rfl, hg, hb1, hr1⟩
  have HR1 := Lib.hid hr1
  have HB1 := Lib.hid (HB0.out.trans (hb1.mono (by simp)))
  have HG := Lib.hid (show w.heap.size ≤ g by simp at hg; omega)
  clear hr1 hb1 hg
  go_wp2_with fail
  refine (HREAD.out _ _ HR1.out).mono ?_
  rintro e w2 ⟨rfl, ha2, hr2⟩
  have HB2 := Lib.hid (Apart.over HB1.out ha2 HB1.out.size HG.out)
  have HR2 := Lib.hid hr2
  clear ha2 hr2
  go_wp2_with fail
  have HDR := Lib.hid (show Below w2.heap.size w2 w2.drew from below_drewN (Below.refl _ _) 1)
  refine wp_region_N (S1 := fun W => Below w2.heap.size w2 W) (S2 := fun _ => True) (N := fun _ => false) (by kernel_rfl) ?_
  change wpAnyN _ _ _ _ _ _ _ 22 (Array.replicate 22 false) _ _
  refine wpAnyN_two (i := 0) (j := 2) (by kernel_rfl) rfl rfl (by kernel_rfl) (by kernel_rfl) ?_ ?_
  · intro K' hK
    try simp only [Act.put]
    go_simp
    refine (HNUM.out _).mono ?_
    rintro e w3 ⟨v3, rfl, hown3, hb3⟩
    have HP3 := Lib.hid hown3.bytes
    have H3 := Lib.hid (HDR.out.trans (hb3.mono HDR.out.size))
    clear hown3 hb3
    refine hK.out _ _ H3.out (fun h => absurd h (by decide)) ?_
    refine wpAnyN_sharp (S1' := fun W => Below w3.heap.size w3 W) (fun W h => H3.out.trans (h.mono H3.out.size)) _ _ _ _ ?_
    refine wpAnyN_take false (i := 1) (v := .string (textOf [172, 2])) rfl (by kernel_rfl) (by kernel_rfl) (by kernel_rfl) (fun _ _ _ h => h) (.inl ⟨by kernel_rfl, fun W hS => ?_⟩) ⟨Below.refl _ _, fun h => by cases h⟩ ?_
    · simp [execOp, Act.eval, go_sem, conv_text (HP3.out.keep hS.1) Try.underlying22 Try.underlying5 Try.underlying9]
    refine wpAnyN_step (i := 2) (by kernel_rfl) rfl (by kernel_rfl) ?_
    intro K' hK
    try simp only [Act.put]
    go_simp
    have HA4 := Lib.hid (show Below w3.heap.size w3 (w3.alloc (Obj.cells #[Value.int IntKind.u8 172, Value.int IntKind.u8 2] 5)) from (Below.refl _ _).alloc (Nat.le_refl _) _)
    have HP4 : Hid (BytesAt (w3.alloc (Obj.cells #[Value.int IntKind.u8 172, Value.int IntKind.u8 2] 5)) (.slice (some ⟨w3.heap.size, 0, none⟩) 2 2) [172, 2]) := Lib.hid (lit_own w3 [172, 2] (by simp) (by simp) w3.heap.size (Nat.le_refl _)).bytes
    refine hK.out _ _ HA4.out (fun h => absurd h (by decide)) ?_
    generalize w3.alloc (Obj.cells #[Value.int IntKind.u8 172, Value.int IntKind.u8 2] 5) = w4 at HA4 HP4 ⊢
    refine wpAnyN_sharp (S1' := fun W => Below w4.heap.size w4 W) (fun W h => HA4.out.trans (h.mono HA4.out.size)) _ _ _ _ ?_
    refine wpAnyN_take false (i := 3) (v := .string (textOf [172, 2])) rfl (by kernel_rfl) (by kernel_rfl) (by kernel_rfl) (fun _ _ _ h => h) (.inl ⟨by kernel_rfl, fun W hS => ?_⟩) ⟨Below.refl _ _, fun h => by cases h⟩ ?_
    · simp [execOp, Act.eval, go_sem, conv_text (HP4.out.keep hS.1) Try.underlying22 Try.underlying5 Try.underlying9]
    have H4 := Lib.hid (over2 H3.out HA4.out)
    refine wpAnyN_take false (i := 4) (v := .bool true) rfl (by kernel_rfl) (by kernel_rfl) (by kernel_rfl) (fun _ _ _ h => h) (.inl ⟨by kernel_rfl, fun W hS => ?_⟩) ⟨Below.refl _ _, fun h => by cases h⟩ ?_
    · simp [execOp, Act.eval, go_sem]
    refine wpAnyN_take false (i := 5) (v := .bool true) rfl (by kernel_rfl) (by kernel_rfl) (by kernel_rfl) (fun _ _ _ h => h) (.inl ⟨by kernel_rfl, fun W hS => ?_⟩) ⟨Below.refl _ _, fun h => by cases h⟩ ?_
    · simp [execOp, Act.eval, Act.put, go_sem]
    refine wpAnyN_take false (i := 6) (v := .int .u64 0) rfl (by kernel_rfl) (by kernel_rfl) (by kernel_rfl) (fun _ _ _ h => h) (.inl ⟨by kernel_rfl, fun W hS => ?_⟩) ⟨Below.refl _ _, fun h => by cases h⟩ ?_
    · simp [execOp, Act.eval, Act.put, go_sem]
    refine wpAnyN_take false (i := 7) (v := .bool true) rfl (by kernel_rfl) (by kernel_rfl) (by kernel_rfl) (fun _ _ _ h => h) (.inl ⟨by kernel_rfl, fun W hS => ?_⟩) ⟨Below.refl _ _, fun h => by cases h⟩ ?_
    · simp [execOp, Act.eval, Act.put, go_sem]
    refine wpAnyN_take false (i := 8) (v := .bool true) rfl (by kernel_rfl) (by kernel_rfl) (by kernel_rfl) (fun _ _ _ h => h) (.inl ⟨by kernel_rfl, fun W hS => ?_⟩) ⟨Below.refl _ _, fun h => by cases h⟩ ?_
    · simp [execOp, Act.eval, Act.put, go_sem]
    refine wpAnyN_take false (i := 9) (v := .bool true) rfl (by kernel_rfl) (by kernel_rfl) (by kernel_rfl) (fun _ _ _ h => h) (.inl ⟨by kernel_rfl, fun W hS => ?_⟩) ⟨Below.refl _ _, fun h => by cases h⟩ ?_
    · simp [execOp, Act.eval, Act.put, go_sem]
    refine wpAnyN_take false (i := 10) (v := .pointer (some ⟨g, 0, none⟩)) rfl (by kernel_rfl) (by kernel_rfl) (by kernel_rfl) (fun _ _ _ h => h) (.inl ⟨by kernel_rfl, fun W hS => ?_⟩) ⟨Below.refl _ _, fun h => by cases h⟩ ?_
    · simp [execOp, Act.eval, Act.put, go_sem]
    refine wpAnyN_step (i := 11) (by kernel_rfl) rfl (by kernel_rfl) ?_
    intro K' hK
    try simp only [Act.put]
    go_simp
    refine (HERR.out _ _ (HR2.out.keep H4.out)).mono ?_
    rintro e w' ⟨rfl, hww⟩
    subst hww
    refine hK.out _ _ (Below.refl _ _) (fun h => absurd h (by decide)) ?_
    refine wpAnyN_take false (i := 12) (v := .bool true) rfl (by kernel_rfl) (by kernel_rfl) (by kernel_rfl) (fun _ _ _ h => h) (.inl ⟨by kernel_rfl, fun W hS => ?_⟩) ⟨Below.refl _ _, fun h => by cases h⟩ ?_
    · simp [execOp, Act.eval, go_sem]
    refine wpAnyN_take false (i := 13) (v := .bool true) rfl (by kernel_rfl) (by kernel_rfl) (by kernel_rfl) (fun _ _ _ h => h) (.inl ⟨by kernel_rfl, fun W hS => ?_⟩) ⟨Below.refl _ _, fun h => by cases h⟩ ?_
    · simp [execOp, Act.eval, Act.put, go_sem]
    refine wpAnyN_take false (i := 14) (v := .bool true) rfl (by kernel_rfl) (by kernel_rfl) (by kernel_rfl) (fun _ _ _ h => h) (.inl ⟨by kernel_rfl, fun W hS => ?_⟩) ⟨Below.refl _ _, fun h => by cases h⟩ ?_
    · simp [execOp, Act.eval, Act.put, go_sem]
    refine wpAnyN_two (i := 15) (j := 16) (by kernel_rfl) rfl rfl (by kernel_rfl) (by kernel_rfl) ?_ ?_
    · intro K' hK
      try simp only [Act.put]
      go_simp
      have HA7 := Lib.hid (show Below w4.heap.size w4 (w4.alloc (Obj.cells #[Value.int IntKind.u8 7] 5)) from (Below.refl _ _).alloc (Nat.le_refl _) _)
      have HP7 : Hid (BytesAt (w4.alloc (Obj.cells #[Value.int IntKind.u8 7] 5)) (.slice (some ⟨w4.heap.size, 0, none⟩) 1 1) [7]) := Lib.hid (lit_own w4 [7] (by simp) (by simp) w4.heap.size (Nat.le_refl _)).bytes
      refine hK.out _ _ HA7.out (fun h => absurd h (by decide)) ?_
      generalize w4.alloc (Obj.cells #[Value.int IntKind.u8 7] 5) = w7 at HA7 HP7 ⊢
      refine wpAnyN_sharp (S1' := fun W => Below w7.heap.size w7 W) (fun W h => HA7.out.trans (h.mono HA7.out.size)) _ _ _ _ ?_
      refine wpAnyN_step (i := 16) (by kernel_rfl) rfl (by kernel_rfl) ?_
      intro K' hK
      try simp only [Act.put]
      go_simp
      have HA8 := Lib.hid (show Below w7.heap.size w7 (w7.alloc (Obj.cells #[Value.int IntKind.u64 1, Value.int IntKind.u64 2] 24)) from (Below.refl _ _).alloc (Nat.le_refl _) _)
      have HP8 : Hid (WordsAt (w7.alloc (Obj.cells #[Value.int IntKind.u64 1, Value.int IntKind.u64 2] 24)) (.slice (some ⟨w7.heap.size, 0, none⟩) 2 2) [1, 2]) := Lib.hid (words_lit w7 [1, 2] (by simp) (by simp))
      refine hK.out _ _ HA8.out (fun h => absurd h (by decide)) ?_
      generalize w7.alloc (Obj.cells #[Value.int IntKind.u64 1, Value.int IntKind.u64 2] 24) = w8 at HA8 HP8 ⊢
      refine wpAnyN_sharp (S1' := fun W => Below w8.heap.size w8 W) (fun W h => HA8.out.trans (h.mono HA8.out.size)) _ _ _ _ ?_
      refine wpAnyN_step (i := 17) (by kernel_rfl) rfl (by kernel_rfl) ?_
      intro K' hK
      try simp only [Act.put]
      go_simp
      refine (HPUT.out _ _ _ (HP7.out.keep HA8.out) (HP8.out)).mono ?_
      rintro e w9 ⟨v9, rfl, hown9, hb9⟩
      obtain ⟨A9, c9, rfl⟩ := own_slice hown9 (n := 3) rfl
      have H9 := Lib.hid hb9
      clear hown9 hb9
      refine hK.out _ _ H9.out (fun h => absurd h (by decide)) ?_
      refine wpAnyN_sharp (S1' := fun W => Below w9.heap.size w9 W) (fun W h => H9.out.trans (h.mono H9.out.size)) _ _ _ _ ?_
      refine wpAnyN_take false (i := 18) (v := .int .i64 3) rfl (by kernel_rfl) (by kernel_rfl) (by kernel_rfl) (fun _ _ _ h => h) (.inl ⟨by kernel_rfl, fun W hS => ?_⟩) ⟨Below.refl _ _, fun h => by cases h⟩ ?_
      · simp [execOp, Act.eval, go_sem]
      refine wpAnyN_take false (i := 19) (v := .bool true) rfl (by kernel_rfl) (by kernel_rfl) (by kernel_rfl) (fun _ _ _ h => h) (.inl ⟨by kernel_rfl, fun W hS => ?_⟩) ⟨Below.refl _ _, fun h => by cases h⟩ ?_
      · simp [execOp, Act.eval, Act.put, go_sem]
      refine wpAnyN_take false (i := 20) (v := .bool true) rfl (by kernel_rfl) (by kernel_rfl) (by kernel_rfl) (fun _ _ _ h => h) (.inl ⟨by kernel_rfl, fun W hS => ?_⟩) ⟨Below.refl _ _, fun h => by cases h⟩ ?_
      · simp [execOp, Act.eval, Act.put, go_sem]
      refine wpAnyN_take false (i := 21) (v := .bool true) rfl (by kernel_rfl) (by kernel_rfl) (by kernel_rfl) (fun _ _ _ h => h) (.inl ⟨by kernel_rfl, fun W hS => ?_⟩) ⟨Below.refl _ _, fun h => by cases h⟩ ?_
      · simp [execOp, Act.eval, Act.put, go_sem]
      refine wpAnyN_done (by kernel_rfl) ?_
      try simp only [Act.put]
      try go_simp
      go_wp2
      go_ret
      exact ⟨rfl, (over (over (over (over ⟨HB2.out, HB2.out.size⟩ H4.out) HA7.out) HA8.out) H9.out).1⟩
    · intro K' hK
      try simp only [Act.put]
      go_simp
      have HA7 := Lib.hid (show Below w4.heap.size w4 (w4.alloc (Obj.cells #[Value.int IntKind.u64 1, Value.int IntKind.u64 2] 24)) from (Below.refl _ _).alloc (Nat.le_refl _) _)
      have HP7 : Hid (WordsAt (w4.alloc (Obj.cells #[Value.int IntKind.u64 1, Value.int IntKind.u64 2] 24)) (.slice (some ⟨w4.heap.size, 0, none⟩) 2 2) [1, 2]) := Lib.hid (words_lit w4 [1, 2] (by simp) (by simp))
      refine hK.out _ _ HA7.out (fun h => absurd h (by decide)) ?_
      generalize w4.alloc (Obj.cells #[Value.int IntKind.u64 1, Value.int IntKind.u64 2] 24) = w7 at HA7 HP7 ⊢
      refine wpAnyN_sharp (S1' := fun W => Below w7.heap.size w7 W) (fun W h => HA7.out.trans (h.mono HA7.out.size)) _ _ _ _ ?_
      refine wpAnyN_step (i := 15) (by kernel_rfl) rfl (by kernel_rfl) ?_
      intro K' hK
      try simp only [Act.put]
      go_simp
      have HA8 := Lib.hid (show Below w7.heap.size w7 (w7.alloc (Obj.cells #[Value.int IntKind.u8 7] 5)) from (Below.refl _ _).alloc (Nat.le_refl _) _)
      have HP8 : Hid (BytesAt (w7.alloc (Obj.cells #[Value.int IntKind.u8 7] 5)) (.slice (some ⟨w7.heap.size, 0, none⟩) 1 1) [7]) := Lib.hid (lit_own w7 [7] (by simp) (by simp) w7.heap.size (Nat.le_refl _)).bytes
      refine hK.out _ _ HA8.out (fun h => absurd h (by decide)) ?_
      generalize w7.alloc (Obj.cells #[Value.int IntKind.u8 7] 5) = w8 at HA8 HP8 ⊢
      refine wpAnyN_sharp (S1' := fun W => Below w8.heap.size w8 W) (fun W h => HA8.out.trans (h.mono HA8.out.size)) _ _ _ _ ?_
      refine wpAnyN_step (i := 17) (by kernel_rfl) rfl (by kernel_rfl) ?_
      intro K' hK
      try simp only [Act.put]
      go_simp
      refine (HPUT.out _ _ _ (HP8.out) (HP7.out.keep HA8.out)).mono ?_
      rintro e w9 ⟨v9, rfl, hown9, hb9⟩
      obtain ⟨A9, c9, rfl⟩ := own_slice hown9 (n := 3) rfl
      have H9 := Lib.hid hb9
      clear hown9 hb9
      refine hK.out _ _ H9.out (fun h => absurd h (by decide)) ?_
      refine wpAnyN_sharp (S1' := fun W => Below w9.heap.size w9 W) (fun W h => H9.out.trans (h.mono H9.out.size)) _ _ _ _ ?_
      refine wpAnyN_take false (i := 18) (v := .int .i64 3) rfl (by kernel_rfl) (by kernel_rfl) (by kernel_rfl) (fun _ _ _ h => h) (.inl ⟨by kernel_rfl, fun W hS => ?_⟩) ⟨Below.refl _ _, fun h => by cases h⟩ ?_
      · simp [execOp, Act.eval, go_sem]
      refine wpAnyN_take false (i := 19) (v := .bool true) rfl (by kernel_rfl) (by kernel_rfl) (by kernel_rfl) (fun _ _ _ h => h) (.inl ⟨by kernel_rfl, fun W hS => ?_⟩) ⟨Below.refl _ _, fun h => by cases h⟩ ?_
      · simp [execOp, Act.eval, Act.put, go_sem]
      refine wpAnyN_take false (i := 20) (v := .bool true) rfl (by kernel_rfl) (by kernel_rfl) (by kernel_rfl) (fun _ _ _ h => h) (.inl ⟨by kernel_rfl, fun W hS => ?_⟩) ⟨Below.refl _ _, fun h => by cases h⟩ ?_
      · simp [execOp, Act.eval, Act.put, go_sem]
      refine wpAnyN_take false (i := 21) (v := .bool true) rfl (by kernel_rfl) (by kernel_rfl) (by kernel_rfl) (fun _ _ _ h => h) (.inl ⟨by kernel_rfl, fun W hS => ?_⟩) ⟨Below.refl _ _, fun h => by cases h⟩ ?_
      · simp [execOp, Act.eval, Act.put, go_sem]
      refine wpAnyN_done (by kernel_rfl) ?_
      try simp only [Act.put]
      try go_simp
      go_wp2
      go_ret
      exact ⟨rfl, (over (over (over (over ⟨HB2.out, HB2.out.size⟩ H4.out) HA7.out) HA8.out) H9.out).1⟩
  · intro K' hK
    try simp only [Act.put]
    go_simp
    have H3 : Hid (Below w2.heap.size w2 (w2.alloc (Obj.cells #[Value.int IntKind.u8 172, Value.int IntKind.u8 2] 5)).drew) := Lib.hid (below_drewN ((Below.refl _ _).alloc (Nat.le_refl _) _) 1)
    have HP3 : Hid (BytesAt (w2.alloc (Obj.cells #[Value.int IntKind.u8 172, Value.int IntKind.u8 2] 5)).drew (.slice (some ⟨w2.heap.size, 0, none⟩) 2 2) [172, 2]) := Lib.hid ((lit_own w2 [172, 2] (by simp) (by simp) w2.heap.size (Nat.le_refl _)).bytes.keep (below_drewN (Below.refl _ _) 1))
    refine hK.out _ _ H3.out (fun h => absurd h (by decide)) ?_
    generalize (w2.alloc (Obj.cells #[Value.int IntKind.u8 172, Value.int IntKind.u8 2] 5)).drew = w3 at H3 HP3 ⊢
    refine wpAnyN_sharp (S1' := fun W => Below w3.heap.size w3 W) (fun W h => H3.out.trans (h.mono H3.out.size)) _ _ _ _ ?_
    refine wpAnyN_take false (i := 3) (v := .string (textOf [172, 2])) rfl (by kernel_rfl) (by kernel_rfl) (by kernel_rfl) (fun _ _ _ h => h) (.inl ⟨by kernel_rfl, fun W hS => ?_⟩) ⟨Below.refl _ _, fun h => by cases h⟩ ?_
    · simp [execOp, Act.eval, go_sem, conv_text (HP3.out.keep hS.1) Try.underlying22 Try.underlying5 Try.underlying9]
    refine wpAnyN_step (i := 0) (by kernel_rfl) rfl (by kernel_rfl) ?_
    intro K' hK
    try simp only [Act.put]
    go_simp
    refine (HNUM.out _).mono ?_
    rintro e w4 ⟨v4, rfl, hown4, hb4⟩
    have HP4 := Lib.hid hown4.bytes
    have HA4 := Lib.hid hb4
    clear hown4 hb4
    refine hK.out _ _ HA4.out (fun h => absurd h (by decide)) ?_
    refine wpAnyN_sharp (S1' := fun W => Below w4.heap.size w4 W) (fun W h => HA4.out.trans (h.mono HA4.out.size)) _ _ _ _ ?_
    refine wpAnyN_take false (i := 1) (v := .string (textOf [172, 2])) rfl (by kernel_rfl) (by kernel_rfl) (by kernel_rfl) (fun _ _ _ h => h) (.inl ⟨by kernel_rfl, fun W hS => ?_⟩) ⟨Below.refl _ _, fun h => by cases h⟩ ?_
    · simp [execOp, Act.eval, go_sem, conv_text (HP4.out.keep hS.1) Try.underlying22 Try.underlying5 Try.underlying9]
    have H4 := Lib.hid (over2 H3.out HA4.out)
    refine wpAnyN_take false (i := 4) (v := .bool true) rfl (by kernel_rfl) (by kernel_rfl) (by kernel_rfl) (fun _ _ _ h => h) (.inl ⟨by kernel_rfl, fun W hS => ?_⟩) ⟨Below.refl _ _, fun h => by cases h⟩ ?_
    · simp [execOp, Act.eval, go_sem]
    refine wpAnyN_take false (i := 5) (v := .bool true) rfl (by kernel_rfl) (by kernel_rfl) (by kernel_rfl) (fun _ _ _ h => h) (.inl ⟨by kernel_rfl, fun W hS => ?_⟩) ⟨Below.refl _ _, fun h => by cases h⟩ ?_
    · simp [execOp, Act.eval, Act.put, go_sem]
    refine wpAnyN_take false (i := 6) (v := .int .u64 0) rfl (by kernel_rfl) (by kernel_rfl) (by kernel_rfl) (fun _ _ _ h => h) (.inl ⟨by kernel_rfl, fun W hS => ?_⟩) ⟨Below.refl _ _, fun h => by cases h⟩ ?_
    · simp [execOp, Act.eval, Act.put, go_sem]
    refine wpAnyN_take false (i := 7) (v := .bool true) rfl (by kernel_rfl) (by kernel_rfl) (by kernel_rfl) (fun _ _ _ h => h) (.inl ⟨by kernel_rfl, fun W hS => ?_⟩) ⟨Below.refl _ _, fun h => by cases h⟩ ?_
    · simp [execOp, Act.eval, Act.put, go_sem]
    refine wpAnyN_take false (i := 8) (v := .bool true) rfl (by kernel_rfl) (by kernel_rfl) (by kernel_rfl) (fun _ _ _ h => h) (.inl ⟨by kernel_rfl, fun W hS => ?_⟩) ⟨Below.refl _ _, fun h => by cases h⟩ ?_
    · simp [execOp, Act.eval, Act.put, go_sem]
    refine wpAnyN_take false (i := 9) (v := .bool true) rfl (by kernel_rfl) (by kernel_rfl) (by kernel_rfl) (fun _ _ _ h => h) (.inl ⟨by kernel_rfl, fun W hS => ?_⟩) ⟨Below.refl _ _, fun h => by cases h⟩ ?_
    · simp [execOp, Act.eval, Act.put, go_sem]
    refine wpAnyN_take false (i := 10) (v := .pointer (some ⟨g, 0, none⟩)) rfl (by kernel_rfl) (by kernel_rfl) (by kernel_rfl) (fun _ _ _ h => h) (.inl ⟨by kernel_rfl, fun W hS => ?_⟩) ⟨Below.refl _ _, fun h => by cases h⟩ ?_
    · simp [execOp, Act.eval, Act.put, go_sem]
    refine wpAnyN_step (i := 11) (by kernel_rfl) rfl (by kernel_rfl) ?_
    intro K' hK
    try simp only [Act.put]
    go_simp
    refine (HERR.out _ _ (HR2.out.keep H4.out)).mono ?_
    rintro e w' ⟨rfl, hww⟩
    subst hww
    refine hK.out _ _ (Below.refl _ _) (fun h => absurd h (by decide)) ?_
    refine wpAnyN_take false (i := 12) (v := .bool true) rfl (by kernel_rfl) (by kernel_rfl) (by kernel_rfl) (fun _ _ _ h => h) (.inl ⟨by kernel_rfl, fun W hS => ?_⟩) ⟨Below.refl _ _, fun h => by cases h⟩ ?_
    · simp [execOp, Act.eval, go_sem]
    refine wpAnyN_take false (i := 13) (v := .bool true) rfl (by kernel_rfl) (by kernel_rfl) (by kernel_rfl) (fun _ _ _ h => h) (.inl ⟨by kernel_rfl, fun W hS => ?_⟩) ⟨Below.refl _ _, fun h => by cases h⟩ ?_
    · simp [execOp, Act.eval, Act.put, go_sem]
    refine wpAnyN_take false (i := 14) (v := .bool true) rfl (by kernel_rfl) (by kernel_rfl) (by kernel_rfl) (fun _ _ _ h => h) (.inl ⟨by kernel_rfl, fun W hS => ?_⟩) ⟨Below.refl _ _, fun h => by cases h⟩ ?_
    · simp [execOp, Act.eval, Act.put, go_sem]
    refine wpAnyN_two (i := 15) (j := 16) (by kernel_rfl) rfl rfl (by kernel_rfl) (by kernel_rfl) ?_ ?_
    · intro K' hK
      try simp only [Act.put]
      go_simp
      have HA7 := Lib.hid (show Below w4.heap.size w4 (w4.alloc (Obj.cells #[Value.int IntKind.u8 7] 5)) from (Below.refl _ _).alloc (Nat.le_refl _) _)
      have HP7 : Hid (BytesAt (w4.alloc (Obj.cells #[Value.int IntKind.u8 7] 5)) (.slice (some ⟨w4.heap.size, 0, none⟩) 1 1) [7]) := Lib.hid (lit_own w4 [7] (by simp) (by simp) w4.heap.size (Nat.le_refl _)).bytes
      refine hK.out _ _ HA7.out (fun h => absurd h (by decide)) ?_
      generalize w4.alloc (Obj.cells #[Value.int IntKind.u8 7] 5) = w7 at HA7 HP7 ⊢
      refine wpAnyN_sharp (S1' := fun W => Below w7.heap.size w7 W) (fun W h => HA7.out.trans (h.mono HA7.out.size)) _ _ _ _ ?_
      refine wpAnyN_step (i := 16) (by kernel_rfl) rfl (by kernel_rfl) ?_
      intro K' hK
      try simp only [Act.put]
      go_simp
      have HA8 := Lib.hid (show Below w7.heap.size w7 (w7.alloc (Obj.cells #[Value.int IntKind.u64 1, Value.int IntKind.u64 2] 24)) from (Below.refl _ _).alloc (Nat.le_refl _) _)
      have HP8 : Hid (WordsAt (w7.alloc (Obj.cells #[Value.int IntKind.u64 1, Value.int IntKind.u64 2] 24)) (.slice (some ⟨w7.heap.size, 0, none⟩) 2 2) [1, 2]) := Lib.hid (words_lit w7 [1, 2] (by simp) (by simp))
      refine hK.out _ _ HA8.out (fun h => absurd h (by decide)) ?_
      generalize w7.alloc (Obj.cells #[Value.int IntKind.u64 1, Value.int IntKind.u64 2] 24) = w8 at HA8 HP8 ⊢
      refine wpAnyN_sharp (S1' := fun W => Below w8.heap.size w8 W) (fun W h => HA8.out.trans (h.mono HA8.out.size)) _ _ _ _ ?_
      refine wpAnyN_step (i := 17) (by kernel_rfl) rfl (by kernel_rfl) ?_
      intro K' hK
      try simp only [Act.put]
      go_simp
      refine (HPUT.out _ _ _ (HP7.out.keep HA8.out) (HP8.out)).mono ?_
      rintro e w9 ⟨v9, rfl, hown9, hb9⟩
      obtain ⟨A9, c9, rfl⟩ := own_slice hown9 (n := 3) rfl
      have H9 := Lib.hid hb9
      clear hown9 hb9
      refine hK.out _ _ H9.out (fun h => absurd h (by decide)) ?_
      refine wpAnyN_sharp (S1' := fun W => Below w9.heap.size w9 W) (fun W h => H9.out.trans (h.mono H9.out.size)) _ _ _ _ ?_
      refine wpAnyN_take false (i := 18) (v := .int .i64 3) rfl (by kernel_rfl) (by kernel_rfl) (by kernel_rfl) (fun _ _ _ h => h) (.inl ⟨by kernel_rfl, fun W hS => ?_⟩) ⟨Below.refl _ _, fun h => by cases h⟩ ?_
      · simp [execOp, Act.eval, go_sem]
      refine wpAnyN_take false (i := 19) (v := .bool true) rfl (by kernel_rfl) (by kernel_rfl) (by kernel_rfl) (fun _ _ _ h => h) (.inl ⟨by kernel_rfl, fun W hS => ?_⟩) ⟨Below.refl _ _, fun h => by cases h⟩ ?_
      · simp [execOp, Act.eval, Act.put, go_sem]
      refine wpAnyN_take false (i := 20) (v := .bool true) rfl (by kernel_rfl) (by kernel_rfl) (by kernel_rfl) (fun _ _ _ h => h) (.inl ⟨by kernel_rfl, fun W hS => ?_⟩) ⟨Below.refl _ _, fun h => by cases h⟩ ?_
      · simp [execOp, Act.eval, Act.put, go_sem]
      refine wpAnyN_take false (i := 21) (v := .bool true) rfl (by kernel_rfl) (by kernel_rfl) (by kernel_rfl) (fun _ _ _ h => h) (.inl ⟨by kernel_rfl, fun W hS => ?_⟩) ⟨Below.refl _ _, fun h => by cases h⟩ ?_
      · simp [execOp, Act.eval, Act.put, go_sem]
      refine wpAnyN_done (by kernel_rfl) ?_
      try simp only [Act.put]
      try go_simp
      go_wp2
      go_ret
      exact ⟨rfl, (over (over (over (over ⟨HB2.out, HB2.out.size⟩ H4.out) HA7.out) HA8.out) H9.out).1⟩
    · intro K' hK
      try simp only [Act.put]
      go_simp
      have HA7 := Lib.hid (show Below w4.heap.size w4 (w4.alloc (Obj.cells #[Value.int IntKind.u64 1, Value.int IntKind.u64 2] 24)) from (Below.refl _ _).alloc (Nat.le_refl _) _)
      have HP7 : Hid (WordsAt (w4.alloc (Obj.cells #[Value.int IntKind.u64 1, Value.int IntKind.u64 2] 24)) (.slice (some ⟨w4.heap.size, 0, none⟩) 2 2) [1, 2]) := Lib.hid (words_lit w4 [1, 2] (by simp) (by simp))
      refine hK.out _ _ HA7.out (fun h => absurd h (by decide)) ?_
      generalize w4.alloc (Obj.cells #[Value.int IntKind.u64 1, Value.int IntKind.u64 2] 24) = w7 at HA7 HP7 ⊢
      refine wpAnyN_sharp (S1' := fun W => Below w7.heap.size w7 W) (fun W h => HA7.out.trans (h.mono HA7.out.size)) _ _ _ _ ?_
      refine wpAnyN_step (i := 15) (by kernel_rfl) rfl (by kernel_rfl) ?_
      intro K' hK
      try simp only [Act.put]
      go_simp
      have HA8 := Lib.hid (show Below w7.heap.size w7 (w7.alloc (Obj.cells #[Value.int IntKind.u8 7] 5)) from (Below.refl _ _).alloc (Nat.le_refl _) _)
      have HP8 : Hid (BytesAt (w7.alloc (Obj.cells #[Value.int IntKind.u8 7] 5)) (.slice (some ⟨w7.heap.size, 0, none⟩) 1 1) [7]) := Lib.hid (lit_own w7 [7] (by simp) (by simp) w7.heap.size (Nat.le_refl _)).bytes
      refine hK.out _ _ HA8.out (fun h => absurd h (by decide)) ?_
      generalize w7.alloc (Obj.cells #[Value.int IntKind.u8 7] 5) = w8 at HA8 HP8 ⊢
      refine wpAnyN_sharp (S1' := fun W => Below w8.heap.size w8 W) (fun W h => HA8.out.trans (h.mono HA8.out.size)) _ _ _ _ ?_
      refine wpAnyN_step (i := 17) (by kernel_rfl) rfl (by kernel_rfl) ?_
      intro K' hK
      try simp only [Act.put]
      go_simp
      refine (HPUT.out _ _ _ (HP8.out) (HP7.out.keep HA8.out)).mono ?_
      rintro e w9 ⟨v9, rfl, hown9, hb9⟩
      obtain ⟨A9, c9, rfl⟩ := own_slice hown9 (n := 3) rfl
      have H9 := Lib.hid hb9
      clear hown9 hb9
      refine hK.out _ _ H9.out (fun h => absurd h (by decide)) ?_
      refine wpAnyN_sharp (S1' := fun W => Below w9.heap.size w9 W) (fun W h => H9.out.trans (h.mono H9.out.size)) _ _ _ _ ?_
      refine wpAnyN_take false (i := 18) (v := .int .i64 3) rfl (by kernel_rfl) (by kernel_rfl) (by kernel_rfl) (fun _ _ _ h => h) (.inl ⟨by kernel_rfl, fun W hS => ?_⟩) ⟨Below.refl _ _, fun h => by cases h⟩ ?_
      · simp [execOp, Act.eval, go_sem]
      refine wpAnyN_take false (i := 19) (v := .bool true) rfl (by kernel_rfl) (by kernel_rfl) (by kernel_rfl) (fun _ _ _ h => h) (.inl ⟨by kernel_rfl, fun W hS => ?_⟩) ⟨Below.refl _ _, fun h => by cases h⟩ ?_
      · simp [execOp, Act.eval, Act.put, go_sem]
      refine wpAnyN_take false (i := 20) (v := .bool true) rfl (by kernel_rfl) (by kernel_rfl) (by kernel_rfl) (fun _ _ _ h => h) (.inl ⟨by kernel_rfl, fun W hS => ?_⟩) ⟨Below.refl _ _, fun h => by cases h⟩ ?_
      · simp [execOp, Act.eval, Act.put, go_sem]
      refine wpAnyN_take false (i := 21) (v := .bool true) rfl (by kernel_rfl) (by kernel_rfl) (by kernel_rfl) (fun _ _ _ h => h) (.inl ⟨by kernel_rfl, fun W hS => ?_⟩) ⟨Below.refl _ _, fun h => by cases h⟩ ?_
      · simp [execOp, Act.eval, Act.put, go_sem]
      refine wpAnyN_done (by kernel_rfl) ?_
      try simp only [Act.put]
      try go_simp
      go_wp2
      go_ret
      exact ⟨rfl, (over (over (over (over ⟨HB2.out, HB2.out.size⟩ H4.out) HA7.out) HA8.out) H9.out).1⟩
end Go.Proofs.Ytjcnkpghbmphfaa
