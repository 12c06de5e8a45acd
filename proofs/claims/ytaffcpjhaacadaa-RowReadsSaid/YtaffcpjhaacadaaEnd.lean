/-
  A reader's End.
  Conditions: none.
-/
import Derived.Test.YtaffcpjhaacadaaReader
set_option linter.unusedVariables false
namespace Go.Proofs.Ytaffcpjhaacadaa
open Go.RowKit

set_option maxRecDepth 100000 in
set_option maxHeartbeats 1000000 in
theorem end_any (g : Nat) (bs : List Nat) (e : Int) (w : World) (h : ReaderAt w g bs e) : Calls Try.prog 29 #[.pointer (some ⟨g, 0, none⟩)] w (Ret (.int .i64 (endI bs e)) w) := by
  have HE := Lib.hid (err_any g bs e w h)
  have HL := Lib.hid (left_any g bs e w h)
  clear h
  by_cases h0 : e = 0
  · subst h0
    by_cases hp : 0 < bs.length
    · have hr : endI bs 0 = 3 := if_pos ⟨rfl, hp⟩
      have hpz : (0 : Int) < (bs.length : Int) := by omega
      rw [hr]
      generalize bs.length = n at *
      clear hr hp
      go_enter Try.func29, Try.ntmps29
      go_wp2_with (first | (go_at_call 38; refine HE.out.mono ?_; rintro e w' ⟨rfl, rfl⟩) | (go_at_call 43; refine HL.out.mono ?_; rintro e w' ⟨rfl, rfl⟩))
      go_ret
      exact ⟨rfl, rfl⟩
    · have hr : endI bs 0 = 0 := if_neg (fun h => hp h.2)
      have hpz : ¬ (0 : Int) < (bs.length : Int) := by omega
      rw [hr]
      generalize bs.length = n at *
      clear hr hp
      go_enter Try.func29, Try.ntmps29
      go_wp2_with (first | (go_at_call 38; refine HE.out.mono ?_; rintro e w' ⟨rfl, rfl⟩) | (go_at_call 43; refine HL.out.mono ?_; rintro e w' ⟨rfl, rfl⟩))
      go_ret
      exact ⟨rfl, rfl⟩
  · have hr : endI bs e = e := if_neg (fun h => h0 h.1)
    have he : (e == 0) = false := by simpa using h0
    rw [hr]
    clear hr h0
    go_enter Try.func29, Try.ntmps29
    go_wp2_with (first | (go_at_call 38; refine HE.out.mono ?_; rintro e w' ⟨rfl, rfl⟩) | (go_at_call 43; refine HL.out.mono ?_; rintro e w' ⟨rfl, rfl⟩))
    go_ret
    exact ⟨rfl, rfl⟩
end Go.Proofs.Ytaffcpjhaacadaa
