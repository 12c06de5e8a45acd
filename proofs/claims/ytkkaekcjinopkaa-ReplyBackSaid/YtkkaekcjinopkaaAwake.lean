/-
  The page's examples.
  Conditions: none.
-/
import Derived.Test.YtkkaekcjinopkaaEncode
import Derived.Test.YtkkaekcjinopkaaRefEncode
set_option linter.unusedVariables false
namespace Go.Proofs.Ytkkaekcjinopkaa
open Go.RowKit

theorem encs_small : ∀ {l : List Nat}, (∀ n ∈ l, n < 128) → encs l = l
  | [], _ => rfl
  | n :: l, h => by
    rw [encs_cons, enc_small (h n (by simp)), encs_small (fun m hm => h m (by simp [hm]))]
    rfl
theorem enc_ex1 : encR ⟨0, true, 2, [7]⟩ = [0, 1, 2, 1, 7] := encs_small (l := [0, 1, 2, 1, 7]) (by decide)
theorem enc_ex2 : encR ⟨12, false, 0, []⟩ = [12, 0, 0, 0] := encs_small (l := [12, 0, 0, 0]) (by decide)

/-- A literal of ints. -/
theorem lit_ints (W : World) (x : Int) : IntsAt (W.alloc (.cells #[.int .i64 x] 3)) (.slice (some ⟨W.heap.size, 0, none⟩) 1 1) [x] := by
  refine ⟨_, 1, rfl, by simp, fun _ => ⟨W.heap.size, 0, rfl, by simp, fun j y hy => ?_⟩⟩
  rcases j with _ | j
  · have e : x = y := by simpa using hy
    subst e
    exact (Boxed.new W 3 (.int .i64 x)).cell
  · simp at hy
theorem IntsAt.form2 {W : World} {v : Value} {xs : List Int} (h : IntsAt W v xs) : ∃ A c, v = .slice A xs.length c := by
  obtain ⟨A, c, h1, _⟩ := h
  exact ⟨A, c, h1⟩
theorem EncP.yes {r : Rep} {w w' : World} {e : Ending} (h : EncP r w e w') (hr : rightB r = true) : ∃ v, e = .returned (.tuple #[v, .int .i64 0]) ∧ Own w' w.heap.size v (encR r) ∧ Below w.heap.size w w' := by
  rcases h with ⟨_, h⟩ | ⟨h, _⟩
  · exact h
  · rw [hr] at h; cases h
theorem EncP.no {r : Rep} {w w' : World} {e : Ending} (h : EncP r w e w') (hr : rightB r = false) : e = .returned (.tuple #[.slice none 0 0, .int .i64 1]) ∧ Below w.heap.size w w' := by
  rcases h with ⟨h, _⟩ | ⟨_, h⟩
  · rw [hr] at h; cases h
  · exact h

set_option maxRecDepth 100000 in
set_option maxHeartbeats 4000000 in
theorem awake_any (w : World) : Calls Try.prog 6 #[] w (RetB (.bool true) w) := by
  have HI := Lib.hid (lit_ints w 7)
  have HB0 := Lib.hid (below_new (W := w) (.cells #[.int .i64 7] 3))
  go_enter Try.func6, Try.ntmps6
  go_wp2_with fail
  generalize w.alloc (.cells #[.int .i64 7] 3) = w1 at *
  refine (encode_any ⟨0, true, 2, [7]⟩ _ w1 HI.out (by decide)).mono ?_
  intro e w2 hE
  obtain ⟨v2, rfl, ho2, hb2⟩ := hE.yes (by decide)
  rw [enc_ex1] at ho2
  have HO2 := Lib.hid ho2
  have HB2 := Lib.hid (HB0.out.trans (hb2.mono HB0.out.size))
  clear hE ho2 hb2
  simp only
  go_wp2_with fail
  refine (encode_any ⟨12, false, 0, []⟩ _ w2 (IntsAt.nil _) (by decide)).mono ?_
  intro e w3 hE
  obtain ⟨v3, rfl, ho3, hb3⟩ := hE.yes (by decide)
  rw [enc_ex2] at ho3
  have HO3 := Lib.hid ho3
  have HO23 := Lib.hid (HO2.out.keep hb3)
  have HB3 := Lib.hid (HB2.out.trans (hb3.mono HB2.out.size))
  clear hE ho3 hb3
  simp only
  go_wp2_with fail
  refine (encode_any ⟨12, false, 1, []⟩ _ w3 (IntsAt.nil _) (by decide)).mono ?_
  intro e w4 hE
  obtain ⟨rfl, hb4⟩ := hE.no (by decide)
  have hv2 := (HO23.out.keep hb4).bytes
  have hv3 := (HO3.out.keep hb4).bytes
  have HB4 := Lib.hid (HB3.out.trans (hb4.mono HB3.out.size))
  clear hE hb4
  simp only
  have hl5 : Own (w4.alloc (.cells #[.int .u8 0, .int .u8 1, .int .u8 2, .int .u8 1, .int .u8 7] 5)) 0 (.slice (some ⟨w4.heap.size, 0, none⟩) 5 5) [0, 1, 2, 1, 7] := lit_own w4 [0, 1, 2, 1, 7] (by decide) (by simp) 0 (Nat.zero_le _)
  have hb5 := below_new (W := w4) (.cells #[.int .u8 0, .int .u8 1, .int .u8 2, .int .u8 1, .int .u8 7] 5)
  have hs5 := World.size_alloc w4 (.cells #[.int .u8 0, .int .u8 1, .int .u8 2, .int .u8 1, .int .u8 7] 5)
  have hv35 := hv3.keep hb5
  have e1 := conv_text (P := Try.prog) (dst := 9) hv2 Try.underlying27 Try.underlying5 Try.underlying9
  have e2 := conv_text (P := Try.prog) (dst := 9) hl5.bytes Try.underlying27 Try.underlying5 Try.underlying9
  have e3 := conv_text (P := Try.prog) (dst := 9) hv35 Try.underlying27 Try.underlying5 Try.underlying9
  have hl6 : Own ((w4.alloc (.cells #[.int .u8 0, .int .u8 1, .int .u8 2, .int .u8 1, .int .u8 7] 5)).alloc (.cells #[.int .u8 12, .int .u8 0, .int .u8 0, .int .u8 0] 5)) 0 (.slice (some ⟨w4.heap.size + 1, 0, none⟩) 4 4) [12, 0, 0, 0] := by
    have h := lit_own (w4.alloc (.cells #[.int .u8 0, .int .u8 1, .int .u8 2, .int .u8 1, .int .u8 7] 5)) [12, 0, 0, 0] (by decide) (by simp) 0 (Nat.zero_le _)
    rw [hs5] at h
    exact h
  have e4 := conv_text (P := Try.prog) (dst := 9) hl6.bytes Try.underlying27 Try.underlying5 Try.underlying9
  have HBF := Lib.hid ((HB4.out.alloc HB4.out.size (.cells #[.int .u8 0, .int .u8 1, .int .u8 2, .int .u8 1, .int .u8 7] 5)).alloc (Nat.le_trans HB4.out.size (by simp)) (.cells #[.int .u8 12, .int .u8 0, .int .u8 0, .int .u8 0] 5))
  clear hl5 hl6 hv2 hv3 hv35 hb5 hs5
  go_wp2_with fail
  go_ret
  exact ⟨rfl, HBF.out⟩
end Go.Proofs.Ytkkaekcjinopkaa
