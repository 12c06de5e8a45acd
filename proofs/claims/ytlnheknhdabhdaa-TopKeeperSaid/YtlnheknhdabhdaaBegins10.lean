/-
  The page's examples of the elder packages come out.
  Conditions: none.
-/
import Derived.Test.YtlnheknhdabhdaaSeal
import Derived.Test.YtlnheknhdabhdaaHeldI
import Derived.Test.YtlnheknhdabhdaaNum
import Derived.Test.YtlnheknhdabhdaaOrders
set_option linter.unusedVariables false
namespace Go.Proofs.Ytlnheknhdabhdaa
open Go.RowKit

theorem enc_300 : enc 300 = [172, 2] := by rw [enc_great (by decide), enc_small (by decide)]
theorem over3 {a b c : World} (h : Below a.heap.size a b) (k : Below b.heap.size b c) : Below a.heap.size a c := h.trans (k.mono h.size)
theorem group7 (w : World) : Calls Try.prog 40 #[.int .i64 7] w (Ret (.bool true) w) := by
  go_enter Try.func40, Try.ntmps40
  go_wp2
  go_ret
  exact ⟨rfl, rfl⟩
theorem unit7 (w : World) : Calls Try.prog 36 #[.int .i64 7, .bool true] w (Ret (.tuple #[.int .i64 1007, .int .i64 0]) w) := by
  have HG := Lib.hid (fun W => group7 W)
  go_enter Try.func36, Try.ntmps36
  go_wp2_with (go_at_call 40; refine (HG.out _).mono ?_; rintro e w' ⟨rfl, rfl⟩)
  go_returns
  exact ⟨rfl, rfl⟩

set_option maxRecDepth 100000 in
set_option maxHeartbeats 4000000 in
theorem begins_any (w : World) : Calls Try.prog 25 #[] w (RetB (.bool true) w) := by
  have HA0 := Lib.hid (show Below w.heap.size w (w.alloc (.cells #[.int .u8 5] 5)) from (Below.refl _ _).alloc (Nat.le_refl _) _)
  have HP0 : Hid (BytesAt (w.alloc (.cells #[.int .u8 5] 5)) (.slice (some ⟨w.heap.size, 0, none⟩) 1 1) [5]) := Lib.hid (lit_own w [5] (by simp) (by simp) w.heap.size (Nat.le_refl _)).bytes
  have HSEAL : Hid (∀ v W, BytesAt W v [5] → Calls Try.prog 14 #[v] W (RetSeal (sealT [5]) W)) := Lib.hid (fun v W h => seal_ok v [5] W h (by decide) (by decide))
  have HUNIT := Lib.hid (fun W => unit7 W)
  have HNEW := Lib.hid (fun W => TI.new_ok W 2 (by decide) (by decide))
  have HNUM : Hid (∀ W, Calls Try.prog 39 #[.int .u64 300] W (RetO W.heap.size [172, 2] W)) := Lib.hid (fun W => by have h := num_any 300 W (by decide); rw [enc_300] at h; exact h)
  have HSL := Lib.hid (sealT_length [5])
  generalize sealT [5] = sl at *
  go_enter Try.func25, Try.ntmps25
  go_wp2_with fail
  refine (HSEAL.out _ _ HP0.out).mono ?_
  rintro e w1 ⟨v1, rfl, hown1, hb1⟩
  have HB1 := Lib.hid (over3 HA0.out hb1)
  obtain ⟨A1, c1, rfl⟩ : ∃ A c, v1 = .slice A 3 c := by
    obtain ⟨A, c, e, _⟩ := hown1.bytes
    rw [HSL.out] at e
    exact ⟨A, c, e⟩
  clear hown1 hb1 HP0 HA0 HSEAL
  go_wp2_with fail
  refine (HUNIT.out _).mono ?_
  rintro e w2 ⟨rfl, rfl⟩
  go_wp2_with fail
  refine (HNEW.out _).mono ?_
  rintro e w3 ⟨rfl, htab, hb3⟩
  have HB3 := Lib.hid (over3 HB1.out hb3)
  have HH := Lib.hid (TI.Held.new (by decide) (by decide) HB1.out HB1.out.size ⟨rfl, htab, hb3⟩)
  have HTK : Hid (Calls Try.prog 38 #[.pointer (some ⟨w1.heap.size, 0, none⟩), .int .i64 9] w3 (TI.MutPost w3 w1.heap.size (.slice none 0 0) (.slice none 0 0) (.tuple #[.int .i64 1, .int .i64 1, .int .i64 0]) (takeNew (newT 2 0) 9))) := Lib.hid (TI.take_new w3 _ _ _ (newT 2 0) 9 htab (newT_okay 2 0 (by decide) (by decide)) rfl (by decide))
  clear htab hb3 HNEW HUNIT
  go_wp2_with fail
  refine HTK.out.mono ?_
  rintro e w4 hm4
  obtain ⟨sv4, fv4, rfl, hh4, _⟩ := HH.out.mut ((newT_okay 2 0 (by decide) (by decide)).new 9 rfl (by decide)) hm4
  have HB4 := Lib.hid hh4.bel
  clear hm4 hh4 HTK HH
  go_wp2_with fail
  have HDR := Lib.hid (show Below w4.heap.size w4 w4.drew from below_drewN (Below.refl _ _) 1)
  refine wp_region_N (S1 := fun W => Below w4.heap.size w4 W) (S2 := fun _ => True) (N := fun _ => false) (by kernel_rfl) ?_
  change wpAnyN _ _ _ _ _ _ _ 27 (Array.replicate 27 false) _ _
  refine wpAnyN_take false (i := 0) (v := .slice A1 3 c1) rfl (by kernel_rfl) (by kernel_rfl) (by kernel_rfl) (fun _ _ _ h => h) (.inl ⟨by kernel_rfl, fun W hS => ?_⟩) ⟨HDR.out, fun h => by cases h⟩ ?_
  · simp [execOp, Act.eval, go_sem]
  refine wpAnyN_take false (i := 1) (v := .int .i64 3) rfl (by kernel_rfl) (by kernel_rfl) (by kernel_rfl) (fun _ _ _ h => h) (.inl ⟨by kernel_rfl, fun W hS => ?_⟩) ⟨HDR.out, fun h => by cases h⟩ ?_
  · simp [execOp, Act.eval, Act.put, go_sem]
  refine wpAnyN_take false (i := 2) (v := .bool true) rfl (by kernel_rfl) (by kernel_rfl) (by kernel_rfl) (fun _ _ _ h => h) (.inl ⟨by kernel_rfl, fun W hS => ?_⟩) ⟨HDR.out, fun h => by cases h⟩ ?_
  · simp [execOp, Act.eval, Act.put, go_sem]
  refine wpAnyN_take false (i := 3) (v := .bool true) rfl (by kernel_rfl) (by kernel_rfl) (by kernel_rfl) (fun _ _ _ h => h) (.inl ⟨by kernel_rfl, fun W hS => ?_⟩) ⟨HDR.out, fun h => by cases h⟩ ?_
  · simp [execOp, Act.eval, Act.put, go_sem]
  refine wpAnyN_take false (i := 4) (v := .int .i64 0) rfl (by kernel_rfl) (by kernel_rfl) (by kernel_rfl) (fun _ _ _ h => h) (.inl ⟨by kernel_rfl, fun W hS => ?_⟩) ⟨HDR.out, fun h => by cases h⟩ ?_
  · simp [execOp, Act.eval, Act.put, go_sem]
  refine wpAnyN_take false (i := 5) (v := .bool true) rfl (by kernel_rfl) (by kernel_rfl) (by kernel_rfl) (fun _ _ _ h => h) (.inl ⟨by kernel_rfl, fun W hS => ?_⟩) ⟨HDR.out, fun h => by cases h⟩ ?_
  · simp [execOp, Act.eval, Act.put, go_sem]
  refine wpAnyN_take false (i := 6) (v := .bool true) rfl (by kernel_rfl) (by kernel_rfl) (by kernel_rfl) (fun _ _ _ h => h) (.inl ⟨by kernel_rfl, fun W hS => ?_⟩) ⟨HDR.out, fun h => by cases h⟩ ?_
  · simp [execOp, Act.eval, Act.put, go_sem]
  refine wpAnyN_take false (i := 7) (v := .bool true) rfl (by kernel_rfl) (by kernel_rfl) (by kernel_rfl) (fun _ _ _ h => h) (.inl ⟨by kernel_rfl, fun W hS => ?_⟩) ⟨HDR.out, fun h => by cases h⟩ ?_
  · simp [execOp, Act.eval, Act.put, go_sem]
  refine wpAnyN_take false (i := 8) (v := .int .i64 1007) rfl (by kernel_rfl) (by kernel_rfl) (by kernel_rfl) (fun _ _ _ h => h) (.inl ⟨by kernel_rfl, fun W hS => ?_⟩) ⟨HDR.out, fun h => by cases h⟩ ?_
  · simp [execOp, Act.eval, Act.put, go_sem]
  refine wpAnyN_take false (i := 9) (v := .bool true) rfl (by kernel_rfl) (by kernel_rfl) (by kernel_rfl) (fun _ _ _ h => h) (.inl ⟨by kernel_rfl, fun W hS => ?_⟩) ⟨HDR.out, fun h => by cases h⟩ ?_
  · simp [execOp, Act.eval, Act.put, go_sem]
  refine wpAnyN_take false (i := 10) (v := .bool true) rfl (by kernel_rfl) (by kernel_rfl) (by kernel_rfl) (fun _ _ _ h => h) (.inl ⟨by kernel_rfl, fun W hS => ?_⟩) ⟨HDR.out, fun h => by cases h⟩ ?_
  · simp [execOp, Act.eval, Act.put, go_sem]
  refine wpAnyN_take false (i := 11) (v := .bool true) rfl (by kernel_rfl) (by kernel_rfl) (by kernel_rfl) (fun _ _ _ h => h) (.inl ⟨by kernel_rfl, fun W hS => ?_⟩) ⟨HDR.out, fun h => by cases h⟩ ?_
  · simp [execOp, Act.eval, Act.put, go_sem]
  refine wpAnyN_take false (i := 12) (v := .int .i64 0) rfl (by kernel_rfl) (by kernel_rfl) (by kernel_rfl) (fun _ _ _ h => h) (.inl ⟨by kernel_rfl, fun W hS => ?_⟩) ⟨HDR.out, fun h => by cases h⟩ ?_
  · simp [execOp, Act.eval, Act.put, go_sem]
  refine wpAnyN_take false (i := 13) (v := .bool true) rfl (by kernel_rfl) (by kernel_rfl) (by kernel_rfl) (fun _ _ _ h => h) (.inl ⟨by kernel_rfl, fun W hS => ?_⟩) ⟨HDR.out, fun h => by cases h⟩ ?_
  · simp [execOp, Act.eval, Act.put, go_sem]
  refine wpAnyN_take false (i := 14) (v := .bool true) rfl (by kernel_rfl) (by kernel_rfl) (by kernel_rfl) (fun _ _ _ h => h) (.inl ⟨by kernel_rfl, fun W hS => ?_⟩) ⟨HDR.out, fun h => by cases h⟩ ?_
  · simp [execOp, Act.eval, Act.put, go_sem]
  refine wpAnyN_take false (i := 15) (v := .bool true) rfl (by kernel_rfl) (by kernel_rfl) (by kernel_rfl) (fun _ _ _ h => h) (.inl ⟨by kernel_rfl, fun W hS => ?_⟩) ⟨HDR.out, fun h => by cases h⟩ ?_
  · simp [execOp, Act.eval, Act.put, go_sem]
  refine wpAnyN_take false (i := 16) (v := .int .i64 1) rfl (by kernel_rfl) (by kernel_rfl) (by kernel_rfl) (fun _ _ _ h => h) (.inl ⟨by kernel_rfl, fun W hS => ?_⟩) ⟨HDR.out, fun h => by cases h⟩ ?_
  · simp [execOp, Act.eval, Act.put, go_sem]
  refine wpAnyN_take false (i := 17) (v := .bool true) rfl (by kernel_rfl) (by kernel_rfl) (by kernel_rfl) (fun _ _ _ h => h) (.inl ⟨by kernel_rfl, fun W hS => ?_⟩) ⟨HDR.out, fun h => by cases h⟩ ?_
  · simp [execOp, Act.eval, Act.put, go_sem]
  refine wpAnyN_take false (i := 18) (v := .bool true) rfl (by kernel_rfl) (by kernel_rfl) (by kernel_rfl) (fun _ _ _ h => h) (.inl ⟨by kernel_rfl, fun W hS => ?_⟩) ⟨HDR.out, fun h => by cases h⟩ ?_
  · simp [execOp, Act.eval, Act.put, go_sem]
  refine wpAnyN_take false (i := 19) (v := .bool true) rfl (by kernel_rfl) (by kernel_rfl) (by kernel_rfl) (fun _ _ _ h => h) (.inl ⟨by kernel_rfl, fun W hS => ?_⟩) ⟨HDR.out, fun h => by cases h⟩ ?_
  · simp [execOp, Act.eval, Act.put, go_sem]
  refine wpAnyN_two (i := 20) (j := 22) (by kernel_rfl) rfl rfl (by kernel_rfl) (by kernel_rfl) ?_ ?_
  · intro K' hK
    try simp only [Act.put]
    go_simp
    refine (HNUM.out _).mono ?_
    rintro e w5 ⟨v5, rfl, hown5, hb5⟩
    have HP5 := Lib.hid hown5.bytes
    have H5 := Lib.hid (HDR.out.trans (hb5.mono HDR.out.size))
    clear hown5 hb5
    refine hK.out _ _ H5.out (fun h => absurd h (by decide)) ?_
    refine wpAnyN_sharp (S1' := fun W => Below w5.heap.size w5 W) (fun W h => H5.out.trans (h.mono H5.out.size)) _ _ _ _ ?_
    refine wpAnyN_take false (i := 21) (v := .string (textOf [172, 2])) rfl (by kernel_rfl) (by kernel_rfl) (by kernel_rfl) (fun _ _ _ h => h) (.inl ⟨by kernel_rfl, fun W hS => ?_⟩) ⟨Below.refl _ _, fun h => by cases h⟩ ?_
    · simp [execOp, Act.eval, go_sem, conv_text (HP5.out.keep hS.1) Try.underlying22 Try.underlying5 Try.underlying9]
    refine wpAnyN_step (i := 22) (by kernel_rfl) rfl (by kernel_rfl) ?_
    intro K' hK
    try simp only [Act.put]
    go_simp
    have HA6 := Lib.hid (show Below w5.heap.size w5 (w5.alloc (Obj.cells #[Value.int IntKind.u8 172, Value.int IntKind.u8 2] 5)) from (Below.refl _ _).alloc (Nat.le_refl _) _)
    have HP6 : Hid (BytesAt (w5.alloc (Obj.cells #[Value.int IntKind.u8 172, Value.int IntKind.u8 2] 5)) (.slice (some ⟨w5.heap.size, 0, none⟩) 2 2) [172, 2]) := Lib.hid (lit_own w5 [172, 2] (by simp) (by simp) w5.heap.size (Nat.le_refl _)).bytes
    refine hK.out _ _ HA6.out (fun h => absurd h (by decide)) ?_
    generalize w5.alloc (Obj.cells #[Value.int IntKind.u8 172, Value.int IntKind.u8 2] 5) = w6 at HA6 HP6 ⊢
    refine wpAnyN_sharp (S1' := fun W => Below w6.heap.size w6 W) (fun W h => HA6.out.trans (h.mono HA6.out.size)) _ _ _ _ ?_
    refine wpAnyN_take false (i := 23) (v := .string (textOf [172, 2])) rfl (by kernel_rfl) (by kernel_rfl) (by kernel_rfl) (fun _ _ _ h => h) (.inl ⟨by kernel_rfl, fun W hS => ?_⟩) ⟨Below.refl _ _, fun h => by cases h⟩ ?_
    · simp [execOp, Act.eval, go_sem, conv_text (HP6.out.keep hS.1) Try.underlying22 Try.underlying5 Try.underlying9]
    refine wpAnyN_take false (i := 24) (v := .bool true) rfl (by kernel_rfl) (by kernel_rfl) (by kernel_rfl) (fun _ _ _ h => h) (.inl ⟨by kernel_rfl, fun W hS => ?_⟩) ⟨Below.refl _ _, fun h => by cases h⟩ ?_
    · simp [execOp, Act.eval, Act.put, go_sem]
    refine wpAnyN_take false (i := 25) (v := .bool true) rfl (by kernel_rfl) (by kernel_rfl) (by kernel_rfl) (fun _ _ _ h => h) (.inl ⟨by kernel_rfl, fun W hS => ?_⟩) ⟨Below.refl _ _, fun h => by cases h⟩ ?_
    · simp [execOp, Act.eval, Act.put, go_sem]
    refine wpAnyN_take false (i := 26) (v := .bool true) rfl (by kernel_rfl) (by kernel_rfl) (by kernel_rfl) (fun _ _ _ h => h) (.inl ⟨by kernel_rfl, fun W hS => ?_⟩) ⟨Below.refl _ _, fun h => by cases h⟩ ?_
    · simp [execOp, Act.eval, Act.put, go_sem]
    refine wpAnyN_done (by kernel_rfl) ?_
    try simp only [Act.put]
    try go_simp
    go_wp2
    go_ret
    exact ⟨rfl, HB4.out.trans ((over3 H5.out HA6.out).mono HB4.out.size)⟩
  · intro K' hK
    try simp only [Act.put]
    go_simp
    have H5 : Hid (Below w4.heap.size w4 (w4.alloc (Obj.cells #[Value.int IntKind.u8 172, Value.int IntKind.u8 2] 5)).drew) := Lib.hid (below_drewN ((Below.refl _ _).alloc (Nat.le_refl _) _) 1)
    have HP5 : Hid (BytesAt (w4.alloc (Obj.cells #[Value.int IntKind.u8 172, Value.int IntKind.u8 2] 5)).drew (.slice (some ⟨w4.heap.size, 0, none⟩) 2 2) [172, 2]) := Lib.hid ((lit_own w4 [172, 2] (by simp) (by simp) w4.heap.size (Nat.le_refl _)).bytes.keep (below_drewN (Below.refl _ _) 1))
    refine hK.out _ _ H5.out (fun h => absurd h (by decide)) ?_
    generalize (w4.alloc (Obj.cells #[Value.int IntKind.u8 172, Value.int IntKind.u8 2] 5)).drew = w5 at H5 HP5 ⊢
    refine wpAnyN_sharp (S1' := fun W => Below w5.heap.size w5 W) (fun W h => H5.out.trans (h.mono H5.out.size)) _ _ _ _ ?_
    refine wpAnyN_take false (i := 23) (v := .string (textOf [172, 2])) rfl (by kernel_rfl) (by kernel_rfl) (by kernel_rfl) (fun _ _ _ h => h) (.inl ⟨by kernel_rfl, fun W hS => ?_⟩) ⟨Below.refl _ _, fun h => by cases h⟩ ?_
    · simp [execOp, Act.eval, go_sem, conv_text (HP5.out.keep hS.1) Try.underlying22 Try.underlying5 Try.underlying9]
    refine wpAnyN_step (i := 20) (by kernel_rfl) rfl (by kernel_rfl) ?_
    intro K' hK
    try simp only [Act.put]
    go_simp
    refine (HNUM.out _).mono ?_
    rintro e w6 ⟨v6, rfl, hown6, hb6⟩
    have HP6 := Lib.hid hown6.bytes
    have HA6 := Lib.hid hb6
    clear hown6 hb6
    refine hK.out _ _ HA6.out (fun h => absurd h (by decide)) ?_
    refine wpAnyN_sharp (S1' := fun W => Below w6.heap.size w6 W) (fun W h => HA6.out.trans (h.mono HA6.out.size)) _ _ _ _ ?_
    refine wpAnyN_take false (i := 21) (v := .string (textOf [172, 2])) rfl (by kernel_rfl) (by kernel_rfl) (by kernel_rfl) (fun _ _ _ h => h) (.inl ⟨by kernel_rfl, fun W hS => ?_⟩) ⟨Below.refl _ _, fun h => by cases h⟩ ?_
    · simp [execOp, Act.eval, go_sem, conv_text (HP6.out.keep hS.1) Try.underlying22 Try.underlying5 Try.underlying9]
    refine wpAnyN_take false (i := 24) (v := .bool true) rfl (by kernel_rfl) (by kernel_rfl) (by kernel_rfl) (fun _ _ _ h => h) (.inl ⟨by kernel_rfl, fun W hS => ?_⟩) ⟨Below.refl _ _, fun h => by cases h⟩ ?_
    · simp [execOp, Act.eval, Act.put, go_sem]
    refine wpAnyN_take false (i := 25) (v := .bool true) rfl (by kernel_rfl) (by kernel_rfl) (by kernel_rfl) (fun _ _ _ h => h) (.inl ⟨by kernel_rfl, fun W hS => ?_⟩) ⟨Below.refl _ _, fun h => by cases h⟩ ?_
    · simp [execOp, Act.eval, Act.put, go_sem]
    refine wpAnyN_take false (i := 26) (v := .bool true) rfl (by kernel_rfl) (by kernel_rfl) (by kernel_rfl) (fun _ _ _ h => h) (.inl ⟨by kernel_rfl, fun W hS => ?_⟩) ⟨Below.refl _ _, fun h => by cases h⟩ ?_
    · simp [execOp, Act.eval, Act.put, go_sem]
    refine wpAnyN_done (by kernel_rfl) ?_
    try simp only [Act.put]
    try go_simp
    go_wp2
    go_ret
    exact ⟨rfl, HB4.out.trans ((over3 H5.out HA6.out).mono HB4.out.size)⟩
end Go.Proofs.Ytlnheknhdabhdaa
