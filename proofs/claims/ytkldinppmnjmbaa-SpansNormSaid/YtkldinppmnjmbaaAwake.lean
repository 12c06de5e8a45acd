/-
  The page's examples come out.
  Conditions: none.
-/
import Derived.Test.YtkldinppmnjmbaaLawBase
set_option linter.unusedVariables false
namespace Go.Proofs.Ytkldinppmnjmbaa
open Go.RowKit

theorem ex_norm : normT [(4, 6), (1, 3), (3, 4)] = [(1, 6)] := by
  refine normT_of ⟨normal_cons.2 ⟨by decide, by simp, normal_nil⟩, fun x => ?_⟩
  simp only [hasS_cons, hasS_nil, or_false]
  omega
theorem ex_less : lessN [(0, 9)] [(2, 4)] = [(0, 2), (4, 9)] := by
  refine (lessN_isN [(2, 4)] (a := [(0, 9)]) (by intro s hs; simp at hs; subst hs; decide)).unique (T := hasS [(0, 2), (4, 9)]) ⟨?_, fun _ => Iff.rfl⟩ fun x => ?_
  · exact normal_cons.2 ⟨by decide, by simp, normal_cons.2 ⟨by decide, by simp, normal_nil⟩⟩
  · simp only [hasS_cons, hasS_nil, or_false]
    omega
theorem ex_total : totF (normT [(2, 5)]) = 3 := by
  rw [normT_of (ps := [(2, 5)]) (r := [(2, 5)]) ⟨normal_cons.2 ⟨by decide, by simp, normal_nil⟩, fun _ => Iff.rfl⟩]
  decide

set_option maxRecDepth 100000 in
set_option maxHeartbeats 4000000 in
theorem awake_any (w : World) : Calls Try.prog 18 #[] w (RetB (.bool true) w) := by
  have HA : Hid (SpansAt (w.alloc (.cells #[.int .i64 4, .int .i64 6, .int .i64 1, .int .i64 3, .int .i64 3, .int .i64 4] 45)) (.slice (some ⟨w.heap.size, 0, none⟩) 3 3) [(4, 6), (1, 3), (3, 4)]) :=
    lit_spans w [(4, 6), (1, 3), (3, 4)] 45 (by decide)
  have HB0 := Lib.hid (show Below w.heap.size w (w.alloc (.cells #[.int .i64 4, .int .i64 6, .int .i64 1, .int .i64 3, .int .i64 3, .int .i64 4] 45)) from (Below.refl _ _).alloc (Nat.le_refl _) _)
  go_enter Try.func18, Try.ntmps18
  go_wp2_with fail
  have H1 := Lib.hid (norm_any _ _ _ HA.out)
  rw [ex_norm] at H1
  refine H1.out.mono ?_
  rintro e w1 ⟨v1, rfl, hat1, hb1⟩
  have HB1 := Lib.hid (HB0.out.trans (hb1.mono (by simp)))
  have hL1 : Below w1.heap.size w1 (w1.alloc (.cells #[.int .i64 1, .int .i64 6] 42)) := (Below.refl _ _).alloc (Nat.le_refl _) _
  have H2 := Lib.hid (same_any v1 (.slice (some ⟨w1.heap.size, 0, none⟩) 1 1) [(1, 6)] (w1.alloc (.cells #[.int .i64 1, .int .i64 6] 42)) (hat1.keep hL1) (lit_spans w1 [(1, 6)] 42 (by decide)))
  have HL1 := Lib.hid hL1
  clear hat1 hb1 hL1 H1 HA HB0
  go_wp2_with fail
  refine H2.out.mono ?_
  rintro e w2 ⟨rfl, hb2⟩
  have HB2 := Lib.hid (HB1.out.trans ((HL1.out.trans (hb2.mono (by simp))).mono HB1.out.size))
  have hM1 : Below w2.heap.size w2 (w2.alloc (.cells #[.int .i64 0, .int .i64 9] 45)) := (Below.refl _ _).alloc (Nat.le_refl _) _
  have hM2 : Below (w2.alloc (.cells #[.int .i64 0, .int .i64 9] 45)).heap.size (w2.alloc (.cells #[.int .i64 0, .int .i64 9] 45)) ((w2.alloc (.cells #[.int .i64 0, .int .i64 9] 45)).alloc (.cells #[.int .i64 2, .int .i64 4] 45)) := (Below.refl _ _).alloc (Nat.le_refl _) _
  have hs2 : (w2.alloc (.cells #[.int .i64 0, .int .i64 9] 45)).heap.size = w2.heap.size + 1 := by simp
  have hq : SpansAt ((w2.alloc (.cells #[.int .i64 0, .int .i64 9] 45)).alloc (.cells #[.int .i64 2, .int .i64 4] 45)) (.slice (some ⟨w2.heap.size + 1, 0, none⟩) 1 1) [(2, 4)] := by
    rw [← hs2]
    exact lit_spans _ [(2, 4)] 45 (by decide)
  have H3 := Lib.hid (less_any (.slice (some ⟨w2.heap.size, 0, none⟩) 1 1) (.slice (some ⟨w2.heap.size + 1, 0, none⟩) 1 1) [(0, 9)] [(2, 4)] _ ((lit_spans w2 [(0, 9)] 45 (by decide) : SpansAt (w2.alloc (.cells #[.int .i64 0, .int .i64 9] 45)) _ _).keep hM2) hq (by decide))
  rw [ex_less] at H3
  have HL2 := Lib.hid (hM1.trans (hM2.mono hM1.size))
  clear hb2 hM1 hM2 hq H2 HL1
  go_wp2_with fail
  refine H3.out.mono ?_
  rintro e w3 ⟨v3, rfl, hat3, hb3⟩
  have HB3 := Lib.hid (HB2.out.trans ((HL2.out.trans (hb3.mono (by simp; omega))).mono HB2.out.size))
  have hL3 : Below w3.heap.size w3 (w3.alloc (.cells #[.int .i64 0, .int .i64 2, .int .i64 4, .int .i64 9] 42)) := (Below.refl _ _).alloc (Nat.le_refl _) _
  have H4 := Lib.hid (same_any v3 (.slice (some ⟨w3.heap.size, 0, none⟩) 2 2) [(0, 2), (4, 9)] (w3.alloc (.cells #[.int .i64 0, .int .i64 2, .int .i64 4, .int .i64 9] 42)) (hat3.keep hL3) (lit_spans w3 [(0, 2), (4, 9)] 42 (by decide)))
  have HL3 := Lib.hid hL3
  clear hat3 hb3 hL3 H3 HL2 hs2
  go_wp2_with fail
  refine H4.out.mono ?_
  rintro e w4 ⟨rfl, hb4⟩
  have HB4 := Lib.hid (HB3.out.trans ((HL3.out.trans (hb4.mono (by simp))).mono HB3.out.size))
  have hL4 : Below w4.heap.size w4 (w4.alloc (.cells #[.int .i64 2, .int .i64 5] 45)) := (Below.refl _ _).alloc (Nat.le_refl _) _
  have H5 := Lib.hid (total_any (.slice (some ⟨w4.heap.size, 0, none⟩) 1 1) [(2, 5)] (w4.alloc (.cells #[.int .i64 2, .int .i64 5] 45)) (lit_spans w4 [(2, 5)] 45 (by decide)))
  rw [ex_total] at H5
  have HL4 := Lib.hid hL4
  clear hb4 hL4 H4 HL3
  go_wp2_with fail
  refine H5.out.mono ?_
  rintro e w5 ⟨rfl, hb5⟩
  have HB5 := Lib.hid (HB4.out.trans ((HL4.out.trans (hb5.mono (by simp))).mono HB4.out.size))
  clear hb5 H5 HL4
  go_wp2
  go_ret
  exact ⟨rfl, HB5.out⟩
end Go.Proofs.Ytkldinppmnjmbaa
