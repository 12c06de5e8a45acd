/-
  begins6: answers that the document gives.
  Conditions: none.
-/
import Derived.Test.YtademjmnoncieaaPut
import Derived.Test.YtademjmnoncieaaTotal
set_option linter.unusedVariables false
namespace Go.Proofs.Ytademjmnoncieaa
open Go.RowKit

theorem lit_spans (W : World) (ps : List Sp) (t : Nat) (hl : ps.length ≤ 100000) : SpansAt (W.alloc (.cells (spansCells ps).toArray t)) (.slice (some ⟨W.heap.size, 0, none⟩) ps.length ps.length) ps := by
  refine spans_of_own (base := 0) (e := t) ?_ hl
  have := World.ownsRow_lit (base := 0) (e := t) (size := 2) W (spansCells ps).toArray ps.length (Nat.zero_le _) (by unfold maxLen; omega) (by simp [spansCells_length])
  simpa using this
theorem ex_total : totF (normT [(2, 5)]) = 3 := by
  rw [normT_of (ps := [(2, 5)]) (r := [(2, 5)]) ⟨normal_cons.2 ⟨by decide, by simp, normal_nil⟩, fun _ => Iff.rfl⟩]
  decide

set_option maxRecDepth 100000 in
set_option maxHeartbeats 4000000 in
theorem begins_any (W : World) : Calls Try.prog 22 #[] W (RetB6 (.bool true) W) := by
  have HNEW := Lib.hid (new_ok W 2 (by decide) (by decide))
  have HCMP := Lib.hid (fun w => show Calls Try.prog 33 #[.int .u64 1, .int .u64 3, .int .u64 2, .int .u64 6] w fun e w' => e = .returned (.tuple #[.int .i64 0, .int .i64 0]) ∧ w = w' from compare_ok 1 3 2 6 (by decide) (by decide) (by decide) (by decide) (by decide) (by decide) w)
  go_enter Try.func22, Try.ntmps22
  go_wp2_with fail
  refine HNEW.out.mono ?_
  rintro e w1 ⟨rfl, h1, b1⟩
  have H1 := Lib.hid h1
  have B1 := Lib.hid b1
  obtain ⟨hb, hhb⟩ : ∃ hb, W.heap.size + 1 = hb := ⟨_, rfl⟩
  obtain ⟨kb, hkb⟩ : ∃ kb, W.heap.size = kb := ⟨_, rfl⟩
  rw [hhb] at H1 ⊢
  rw [hkb] at H1
  have HHB := Lib.hid (show W.heap.size ≤ hb by omega)
  have HKB := Lib.hid (show W.heap.size ≤ kb by omega)
  clear h1 b1 hhb hkb HNEW
  go_wp2_with fail
  refine (HCMP.out _).mono ?_
  rintro e w ⟨rfl, rfl⟩
  have P1 := Lib.hid (put_ok w1 hb kb _ (emptyS 2) 1 1 1 H1.out (emptyS_okay 2) (by decide) (by decide) (by decide) (by decide) (by decide))
  go_wp2_with fail
  refine P1.out.mono ?_
  rintro e w2 ⟨lv', s', rfl, h2, k2, c2, a2, g2⟩
  have H2 := Lib.hid h2
  have B2 := Lib.hid (B1.out.trans (a2.below B1.out.size (fun k hk hf => by
    have q1 := HHB.out
    have q2 := HKB.out
    rcases hf with rfl | rfl | hf
    · omega
    · omega
    · simp [Value.ownBlock] at hf)))
  have hm : s'.m = 1 := c2.2.1
  have ql := len_any w2 hb kb lv' s' h2
  rw [hm] at ql
  have QL := Lib.hid ql
  clear h2 k2 c2 a2 g2 hm ql P1
  go_wp2_with fail
  refine QL.out.mono ?_
  rintro e w ⟨rfl, rfl⟩
  have HA : Hid (SpansAt (w2.alloc (.cells #[.int .i64 2, .int .i64 5] 77)) (.slice (some ⟨w2.heap.size, 0, none⟩) 1 1) [(2, 5)]) := lit_spans w2 [(2, 5)] 77 (by decide)
  have QT := total_any _ _ _ HA.out
  rw [ex_total] at QT
  have QT := Lib.hid QT
  go_wp2_with fail
  refine QT.out.mono ?_
  rintro e w3 ⟨rfl, b3⟩
  have B3 := Lib.hid (B2.out.trans (((Below.refl w2.heap.size w2).alloc (Nat.le_refl _) (.cells #[.int .i64 2, .int .i64 5] 77)).trans (b3.mono (by simp)) |>.mono B2.out.size))
  clear b3
  go_wp2_with fail
  go_ret
  exact ⟨rfl, B3.out⟩
end Go.Proofs.Ytademjmnoncieaa
