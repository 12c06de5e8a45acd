/-
  The page's example comes out.
  Conditions: none.
-/
import Derived.Test.YtpblfonkcibagaaExample
import Derived.Test.YtpblfonkcibagaaFits
import Derived.Test.YtpblfonkcibagaaTells
set_option linter.unusedVariables false
namespace Go.Proofs.Ytpblfonkcibagaa
open Go.RowKit

set_option maxRecDepth 100000 in
set_option maxHeartbeats 4000000 in
theorem awake_any (w : World) : Calls Try.prog 8 #[] w (RetB (.bool true) w) := by
  have HCK := Lib.hid (fun v W h => planCheck_any 4 3 v exL W h exL_light (by decide))
  have HCZ := Lib.hid (fun W => planCheck_any 0 0 (.slice none 0 0) [] W (PlsIn.nil _ _) ⟨by decide, fun x hx => by cases hx⟩ (by decide))
  have HR0 := Lib.hid (fun v W h => room_any 4 3 v exL 0 W h exL_light exL_shares (by decide) (by decide) (by decide))
  have HR1 := Lib.hid (fun v W h => room_any 4 3 v exL 1 W h exL_light exL_shares (by decide) (by decide) (by decide))
  have HFR := Lib.hid (fun v W h => free_any 4 3 v exL W h exL_light exL_shares (by decide) (by decide) (by decide))
  have HSP := Lib.hid (fun v W h => splits_any 4 3 v exL W h (by decide))
  have HWN := Lib.hid (fun v W h => winP_any 4 3 v exL 1 W h exL_light (by decide) exL_has)
  rw [exL_room0] at HR0
  rw [exL_room1] at HR1
  rw [exL_free] at HFR
  rw [exL_splits] at HSP
  rw [exL_win] at HWN
  unfold planA at HCK HCZ HR0 HR1 HFR HSP HWN
  go_enter Try.func8, Try.ntmps8
  go_wp2_with fail
  refine (example_any _).mono ?_
  rintro e w0 ⟨v, rfl, hl, hb0⟩
  obtain ⟨A, d, rfl, _, _⟩ := hl.form
  obtain ⟨w1, P, hw1, hP, hPl, hb1, hpb⟩ := box_any w0 #[.int .i64 0, .int .u32 0, .slice none 0 0] 25
  have HL0 := Lib.hid ((hl.mono (G := fun b => b < w0.heap.size) fun b h _ => h).keep hb1)
  have HB0 := Lib.hid (hb0.trans (hb1.mono hb0.size))
  have HPB := Lib.hid hpb
  have HPG := Lib.hid (show w.heap.size ≤ P by have := hb0.size; omega)
  obtain ⟨w2, hw2⟩ : ∃ w2, w1.setRow P #[.int .i64 4, .int .u32 3, .slice A exL.length d] = w2 := ⟨_, rfl⟩
  have HL2 : Hid (PlsAt w2 (.slice A exL.length d) exL) := Lib.hid (by rw [← hw2]; exact (PlsIn.setRow HL0.out (.inl (by omega))).any)
  have HB2 : Hid (Below w.heap.size w w2) := Lib.hid (by rw [← hw2]; exact below_row HB0.out HPG.out _)
  have HP2 : Hid (w2.heap[P]? = some (.cells #[.int .i64 4, .int .u32 3, .slice A exL.length d] 25 (0, 0))) := Lib.hid (by rw [← hw2]; exact setRow_heap _ _ _ _ _ _ HPB.out)
  obtain ⟨a2, b2, c2⟩ := three_heads HP2.out
  clear hb0 hl hb1 hpb
  unfold planA
  go_wp2_with (refine wpList_store_row rfl _ _ _ rfl P #[.int .i64 4, .int .u32 3, .slice A exL.length d] rfl rfl 25 _ HPB.out (Try.sizePn _ _ _) rfl (one3 _ _ _ _ _) ?_)
  refine (HCK.out _ _ HL2.out).mono ?_
  rintro e w3 ⟨E, rfl, _, hE, hb3⟩
  have hE0 : E = 0 := hE.2 exL_right
  subst hE0
  have HB3 := Lib.hid (HB2.out.trans (hb3.mono HB2.out.size))
  have HP3 := Lib.hid (keep_block HP2.out hb3)
  have HL3 := Lib.hid (HL2.out.keep hb3)
  obtain ⟨a3, b3, c3⟩ := three_heads HP3.out
  clear hb3 hE hw1 hP hw2 a2 b2 c2
  go_wp2_with fail
  refine (HCZ.out _).mono ?_
  rintro e w4 ⟨E, rfl, hE3, hE, hb4⟩
  have hE0 : E = 30 := hE3.resolve_left fun h => no_zero (hE.1 h)
  subst hE0
  have HB4 := Lib.hid (HB3.out.trans (hb4.mono HB3.out.size))
  have HP4 := Lib.hid (keep_block HP3.out hb4)
  have HL4 := Lib.hid (HL3.out.keep hb4)
  obtain ⟨a4, b4, c4⟩ := three_heads HP4.out
  clear hb4 hE hE3 a3 b3 c3
  go_wp2_with fail
  refine (HR0.out _ _ HL4.out).mono ?_
  rintro e w5 ⟨rfl, hb5⟩
  have HB5 := Lib.hid (HB4.out.trans (hb5.mono HB4.out.size))
  have HP5 := Lib.hid (keep_block HP4.out hb5)
  have HL5 := Lib.hid (HL4.out.keep hb5)
  clear hb5
  obtain ⟨a5, b5, c5⟩ := three_heads HP5.out
  go_wp2_with fail
  refine (HR1.out _ _ HL5.out).mono ?_
  rintro e w6 ⟨rfl, hb6⟩
  have HB6 := Lib.hid (HB5.out.trans (hb6.mono HB5.out.size))
  have HP6 := Lib.hid (keep_block HP5.out hb6)
  have HL6 := Lib.hid (HL5.out.keep hb6)
  clear hb6
  obtain ⟨a6, b6, c6⟩ := three_heads HP6.out
  go_wp2_with fail
  refine (HFR.out _ _ HL6.out).mono ?_
  rintro e w7 ⟨rfl, hb7⟩
  have HB7 := Lib.hid (HB6.out.trans (hb7.mono HB6.out.size))
  have HP7 := Lib.hid (keep_block HP6.out hb7)
  have HL7 := Lib.hid (HL6.out.keep hb7)
  clear hb7
  obtain ⟨a7, b7, c7⟩ := three_heads HP7.out
  go_wp2_with fail
  refine (HSP.out _ _ HL7.out).mono ?_
  rintro e w8 ⟨rfl, hb8⟩
  have HB8 := Lib.hid (HB7.out.trans (hb8.mono HB7.out.size))
  have HP8 := Lib.hid (keep_block HP7.out hb8)
  have HL8 := Lib.hid (HL7.out.keep hb8)
  clear hb8
  obtain ⟨a8, b8, c8⟩ := three_heads HP8.out
  go_wp2_with fail
  refine (HWN.out _ _ HL8.out).mono ?_
  rintro e w9 ⟨rfl, hb9⟩
  have HB9 := Lib.hid (HB8.out.trans (hb9.mono HB8.out.size))
  have HP9 := Lib.hid (keep_block HP8.out hb9)
  have HL9 := Lib.hid (HL8.out.keep hb9)
  clear hb9
  obtain ⟨a9, b9, c9⟩ := three_heads HP9.out
  go_wp2
  go_ret
  exact ⟨rfl, HB9.out⟩
end Go.Proofs.Ytpblfonkcibagaa
