/-
  The page's examples come out.
  Conditions: none.
-/
import Derived.Test.YtlnheknhdabhdaaSeal
import Derived.Test.YtlnheknhdabhdaaCount
import Derived.Test.YtlnheknhdabhdaaOrders
set_option linter.unusedVariables false
namespace Go.Proofs.Ytlnheknhdabhdaa
open Go.RowKit

theorem split_page : splitT [0, 200, 3, 1] 0 = [⟨0, 1, false, []⟩, ⟨1, 1, false, []⟩, ⟨2, 2, false, []⟩] := by
  have e0 : firstT [0, 200, 3, 1] = (1, false) := by rw [firstT_cons]; rfl
  have e1 : firstT [200, 3, 1] = (1, false) := by rw [firstT_cons]; rfl
  have e2 : firstT [3, 1] = (2, false) := by rw [firstT_cons]; rfl
  rw [splitT_more (by decide), splitT_more (by simp [rcT, e0]), splitT_more (by simp [rcT, e0, e1]), splitT_end (by simp [rcT, e0, e1, e2])]
  simp [rcT, e0, e1, e2]
theorem over2 {a b c : World} (h : Below a.heap.size a b) (k : Below b.heap.size b c) : Below a.heap.size a c := h.trans (k.mono h.size)

set_option maxRecDepth 100000 in
set_option maxHeartbeats 4000000 in
theorem awake_any (w : World) : Calls Try.prog 8 #[] w (RetB (.bool true) w) := by
  have HA0 := Lib.hid (show Below w.heap.size w (w.alloc (.cells #[.int .u8 5] 5)) from (Below.refl _ _).alloc (Nat.le_refl _) _)
  have HP0 : Hid (BytesAt (w.alloc (.cells #[.int .u8 5] 5)) (.slice (some ⟨w.heap.size, 0, none⟩) 1 1) [5]) := Lib.hid (lit_own w [5] (by simp) (by simp) w.heap.size (Nat.le_refl _)).bytes
  have HSEAL : Hid (∀ v W, BytesAt W v [5] → Calls Try.prog 14 #[v] W (RetSeal (sealT [5]) W)) := Lib.hid (fun v W h => seal_ok v [5] W h (by decide) (by decide))
  have HREF : Hid (∀ v W, BytesAt W v [5] → Calls Try.prog 15 #[v] W (RetO W.heap.size (sealT [5]) W)) := Lib.hid (fun v W h => refSeal_any v [5] W h (by decide))
  have HCNT : Hid (∀ v W, BytesAt W v [0, 200, 3, 1] → Calls Try.prog 11 #[v] W (RetB (.tuple #[.int .i64 0, .int .i64 3]) W)) := Lib.hid (fun v W h => by
    have h1 := count_any v [0, 200, 3, 1] W h (by decide)
    rw [split_page] at h1
    exact h1)
  generalize sealT [5] = sl at *
  go_enter Try.func8, Try.ntmps8
  go_wp2_with fail
  refine (HSEAL.out _ _ HP0.out).mono ?_
  rintro e w1 ⟨v1, rfl, hown1, hb1⟩
  have HP1 := Lib.hid hown1.bytes
  have HB1 := Lib.hid (over2 HA0.out hb1)
  have HA1 := Lib.hid (show Below w1.heap.size w1 (w1.alloc (.cells #[.int .u8 0, .int .u8 200, .int .u8 3, .int .u8 1] 5)) from (Below.refl _ _).alloc (Nat.le_refl _) _)
  have HP2 : Hid (BytesAt (w1.alloc (.cells #[.int .u8 0, .int .u8 200, .int .u8 3, .int .u8 1] 5)) (.slice (some ⟨w1.heap.size, 0, none⟩) 4 4) [0, 200, 3, 1]) := Lib.hid (lit_own w1 [0, 200, 3, 1] (by simp) (by simp) w1.heap.size (Nat.le_refl _)).bytes
  clear hown1 hb1 HP0
  go_wp2_with fail
  refine (HCNT.out _ _ HP2.out).mono ?_
  rintro e w2 ⟨rfl, hb2⟩
  have HB2 := Lib.hid (over2 (over2 HB1.out HA1.out) hb2)
  have HP3 := Lib.hid (HP1.out.keep (over2 HA1.out hb2))
  clear hb2 HP2 HP1
  go_wp2_with fail
  have HDR := Lib.hid (show Below w2.heap.size w2 w2.drew from below_drewN (Below.refl _ _) 1)
  refine wp_region_N (S1 := fun W => Below w2.heap.size w2 W) (S2 := fun _ => True) (N := fun _ => false) (by kernel_rfl) ?_
  change wpAnyN _ _ _ _ _ _ _ 19 (Array.replicate 19 false) _ _
  refine wpAnyN_take false (i := 0) (v := v1) rfl (by kernel_rfl) (by kernel_rfl) (by kernel_rfl) (fun _ _ _ h => h) (.inl ⟨by kernel_rfl, fun W hS => ?_⟩) ⟨HDR.out, fun h => by cases h⟩ ?_
  · simp [execOp, Act.eval, go_sem]
  refine wpAnyN_take false (i := 1) (v := .string (textOf sl)) rfl (by kernel_rfl) (by kernel_rfl) (by kernel_rfl) (fun _ _ _ h => h) (.inl ⟨by kernel_rfl, fun W hS => ?_⟩) ⟨HDR.out, fun h => by cases h⟩ ?_
  · simp [execOp, Act.eval, Act.put, go_sem, conv_text (HP3.out.keep hS.1) Try.underlying22 Try.underlying5 Try.underlying9]
  refine wpAnyN_step (i := 2) (by kernel_rfl) rfl (by kernel_rfl) ?_
  intro K' hK
  try simp only [Act.put]
  go_simp
  have HA5 : Hid (Below w2.heap.size w2 (w2.alloc (Obj.cells #[Value.int IntKind.u8 5] 5)).drew) := Lib.hid (below_drewN ((Below.refl _ _).alloc (Nat.le_refl _) _) 1)
  have HP5 : Hid (BytesAt (w2.alloc (Obj.cells #[Value.int IntKind.u8 5] 5)).drew (.slice (some ⟨w2.heap.size, 0, none⟩) 1 1) [5]) := Lib.hid ((lit_own w2 [5] (by simp) (by simp) w2.heap.size (Nat.le_refl _)).bytes.keep (below_drewN (Below.refl _ _) 1))
  refine hK.out _ _ HA5.out (fun h => absurd h (by decide)) ?_
  generalize (w2.alloc (Obj.cells #[Value.int IntKind.u8 5] 5)).drew = w5 at HA5 HP5 ⊢
  refine wpAnyN_sharp (S1' := fun W => Below w5.heap.size w5 W) (fun W h => HA5.out.trans (h.mono HA5.out.size)) _ _ _ _ ?_
  refine wpAnyN_step (i := 3) (by kernel_rfl) rfl (by kernel_rfl) ?_
  intro K' hK
  try simp only [Act.put]
  go_simp
  refine (HREF.out _ _ HP5.out).mono ?_
  rintro e w6 ⟨v6, rfl, hown6, hb6⟩
  have HO6 := Lib.hid hown6.bytes
  have HC6 := Lib.hid hb6
  clear hown6 hb6
  refine hK.out _ _ HC6.out (fun h => absurd h (by decide)) ?_
  refine wpAnyN_sharp (S1' := fun W => Below w6.heap.size w6 W) (fun W h => HC6.out.trans (h.mono HC6.out.size)) _ _ _ _ ?_
  refine wpAnyN_take false (i := 4) (v := .string (textOf sl)) rfl (by kernel_rfl) (by kernel_rfl) (by kernel_rfl) (fun _ _ _ h => h) (.inl ⟨by kernel_rfl, fun W hS => ?_⟩) ⟨Below.refl _ _, fun h => by cases h⟩ ?_
  · simp [execOp, Act.eval, go_sem, conv_text (HO6.out.keep hS.1) Try.underlying22 Try.underlying5 Try.underlying9]
  refine wpAnyN_take false (i := 5) (v := .bool true) rfl (by kernel_rfl) (by kernel_rfl) (by kernel_rfl) (fun _ _ _ h => h) (.inl ⟨by kernel_rfl, fun W hS => ?_⟩) ⟨Below.refl _ _, fun h => by cases h⟩ ?_
  · simp [execOp, Act.eval, Act.put, go_sem]
  refine wpAnyN_take false (i := 6) (v := .bool true) rfl (by kernel_rfl) (by kernel_rfl) (by kernel_rfl) (fun _ _ _ h => h) (.inl ⟨by kernel_rfl, fun W hS => ?_⟩) ⟨Below.refl _ _, fun h => by cases h⟩ ?_
  · simp [execOp, Act.eval, Act.put, go_sem]
  refine wpAnyN_take false (i := 7) (v := .int .i64 0) rfl (by kernel_rfl) (by kernel_rfl) (by kernel_rfl) (fun _ _ _ h => h) (.inl ⟨by kernel_rfl, fun W hS => ?_⟩) ⟨Below.refl _ _, fun h => by cases h⟩ ?_
  · simp [execOp, Act.eval, Act.put, go_sem]
  refine wpAnyN_take false (i := 8) (v := .bool true) rfl (by kernel_rfl) (by kernel_rfl) (by kernel_rfl) (fun _ _ _ h => h) (.inl ⟨by kernel_rfl, fun W hS => ?_⟩) ⟨Below.refl _ _, fun h => by cases h⟩ ?_
  · simp [execOp, Act.eval, Act.put, go_sem]
  refine wpAnyN_take false (i := 9) (v := .bool true) rfl (by kernel_rfl) (by kernel_rfl) (by kernel_rfl) (fun _ _ _ h => h) (.inl ⟨by kernel_rfl, fun W hS => ?_⟩) ⟨Below.refl _ _, fun h => by cases h⟩ ?_
  · simp [execOp, Act.eval, Act.put, go_sem]
  refine wpAnyN_take false (i := 10) (v := .bool true) rfl (by kernel_rfl) (by kernel_rfl) (by kernel_rfl) (fun _ _ _ h => h) (.inl ⟨by kernel_rfl, fun W hS => ?_⟩) ⟨Below.refl _ _, fun h => by cases h⟩ ?_
  · simp [execOp, Act.eval, Act.put, go_sem]
  refine wpAnyN_take false (i := 11) (v := .int .i64 0) rfl (by kernel_rfl) (by kernel_rfl) (by kernel_rfl) (fun _ _ _ h => h) (.inl ⟨by kernel_rfl, fun W hS => ?_⟩) ⟨Below.refl _ _, fun h => by cases h⟩ ?_
  · simp [execOp, Act.eval, Act.put, go_sem]
  refine wpAnyN_take false (i := 12) (v := .bool true) rfl (by kernel_rfl) (by kernel_rfl) (by kernel_rfl) (fun _ _ _ h => h) (.inl ⟨by kernel_rfl, fun W hS => ?_⟩) ⟨Below.refl _ _, fun h => by cases h⟩ ?_
  · simp [execOp, Act.eval, Act.put, go_sem]
  refine wpAnyN_take false (i := 13) (v := .bool true) rfl (by kernel_rfl) (by kernel_rfl) (by kernel_rfl) (fun _ _ _ h => h) (.inl ⟨by kernel_rfl, fun W hS => ?_⟩) ⟨Below.refl _ _, fun h => by cases h⟩ ?_
  · simp [execOp, Act.eval, Act.put, go_sem]
  refine wpAnyN_take false (i := 14) (v := .bool true) rfl (by kernel_rfl) (by kernel_rfl) (by kernel_rfl) (fun _ _ _ h => h) (.inl ⟨by kernel_rfl, fun W hS => ?_⟩) ⟨Below.refl _ _, fun h => by cases h⟩ ?_
  · simp [execOp, Act.eval, Act.put, go_sem]
  refine wpAnyN_take false (i := 15) (v := .int .i64 3) rfl (by kernel_rfl) (by kernel_rfl) (by kernel_rfl) (fun _ _ _ h => h) (.inl ⟨by kernel_rfl, fun W hS => ?_⟩) ⟨Below.refl _ _, fun h => by cases h⟩ ?_
  · simp [execOp, Act.eval, Act.put, go_sem]
  refine wpAnyN_take false (i := 16) (v := .bool true) rfl (by kernel_rfl) (by kernel_rfl) (by kernel_rfl) (fun _ _ _ h => h) (.inl ⟨by kernel_rfl, fun W hS => ?_⟩) ⟨Below.refl _ _, fun h => by cases h⟩ ?_
  · simp [execOp, Act.eval, Act.put, go_sem]
  refine wpAnyN_take false (i := 17) (v := .bool true) rfl (by kernel_rfl) (by kernel_rfl) (by kernel_rfl) (fun _ _ _ h => h) (.inl ⟨by kernel_rfl, fun W hS => ?_⟩) ⟨Below.refl _ _, fun h => by cases h⟩ ?_
  · simp [execOp, Act.eval, Act.put, go_sem]
  refine wpAnyN_take false (i := 18) (v := .bool true) rfl (by kernel_rfl) (by kernel_rfl) (by kernel_rfl) (fun _ _ _ h => h) (.inl ⟨by kernel_rfl, fun W hS => ?_⟩) ⟨Below.refl _ _, fun h => by cases h⟩ ?_
  · simp [execOp, Act.eval, Act.put, go_sem]
  refine wpAnyN_done (by kernel_rfl) ?_
  try simp only [Act.put]
  try go_simp
  go_wp2
  go_ret
  exact ⟨rfl, over2 (over2 HB2.out HA5.out) HC6.out⟩
end Go.Proofs.Ytlnheknhdabhdaa
