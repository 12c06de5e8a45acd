/-
  Two slices that read alike.
  Conditions: the slices read as wants.
-/
import Derived.Test.YtpblfonkcibagaaRets
set_option linter.unusedVariables false
namespace Go.Proofs.Ytpblfonkcibagaa
open Go.RowKit

set_option maxRecDepth 100000 in
set_option maxHeartbeats 2000000 in
theorem same_any (x y : Value) (ps : List Sp) (w : World) (hx : SpansAt w x ps) (hy : SpansAt w y ps) : Calls Try.prog 18 #[x, y] w (RetB (.bool true) w) := by
  obtain ⟨A1, k1, rfl, a1, a2, a3, a4⟩ := hx
  obtain ⟨A2, k2, rfl, b1, b2, b3, b4⟩ := hy
  have HX := Lib.hid a4
  have HY := Lib.hid b4
  generalize hn : ps.length = n at *
  have HN := Lib.hid hn
  have hnn : ((n : Int) != (n : Int)) = false := by simp
  clear a4 b4 hn
  go_enter Try.func18, Try.ntmps18
  go_wp2_with fail
  go_loopg [5] n (fun g s wr => ∃ i : Nat, i ≤ n ∧ g = n - i ∧ s = .int .i64 i ∧ Below w.heap.size w wr)
  case atStart => exact ⟨0, Nat.zero_le _, by omega, rfl, Below.refl _ _⟩
  case round =>
    obtain ⟨i, hin, hgg, rfl, hbw⟩ := hrel
    have HG := Lib.hid hgg
    have HB := Lib.hid hbw
    clear hgg hbw
    by_cases hlt : i < n
    · obtain ⟨bx, ox, hA1, hl1, hc1⟩ := HX.out (by omega)
      obtain ⟨by_, oy, hA2, hl2, hc2⟩ := HY.out (by omega)
      subst hA1 hA2
      obtain ⟨z, hz⟩ := ex_at (xs := ps) (k := i) (by rw [HN.out]; exact hlt)
      obtain ⟨c1, c2⟩ := (hc1 i z hz).keep HB.out hl1
      obtain ⟨d1, d2⟩ := (hc2 i z hz).keep HB.out hl2
      obtain ⟨z1, z2⟩ := z
      simp only at c1 c2 d1 d2
      have e1 : (z1 != z1) = false := by simp
      have e2 : (z2 != z2) = false := by simp
      have hltz : (i : Int) < (n : Int) := by omega
      clear hc1 hc2 hz
      go_wp2_with fail
      go_quiet (fail)
      go_wp2_with fail
      go_roundg (n - (i + 1))
      case measure => have := HG.out; omega
      case rel => exact ⟨i + 1, by omega, rfl, by go_num, below_drewN HB.out _⟩
    · have hltz : ¬ (i : Int) < (n : Int) := by omega
      go_wp2
      go_ret
      exact ⟨rfl, HB.out⟩
end Go.Proofs.Ytpblfonkcibagaa
