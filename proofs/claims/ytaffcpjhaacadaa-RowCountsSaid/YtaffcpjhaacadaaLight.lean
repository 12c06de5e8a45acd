/-
  The law's own 'light'.
  Conditions: none.
-/
import Derived.Test.YtaffcpjhaacadaaLists
set_option linter.unusedVariables false
namespace Go.Proofs.Ytaffcpjhaacadaa
open Go.RowKit

/-- What light answers. -/
def RetLight (n : Nat) (w : World) (e : Ending) (w' : World) : Prop := ∃ q, e = .returned (.bool q) ∧ w = w' ∧ (q = true → n ≤ 4200)

set_option maxRecDepth 100000 in
set_option maxHeartbeats 2000000 in
theorem light_any (v : Value) (ls : List (Value × List Int)) (w : World) (hv : RowsAt w v ls) : Calls Try.prog 7 #[v] w (RetLight ls.length w) := by
  have HV := Lib.hid hv
  obtain ⟨A, c, rfl, hlc⟩ := hv.form
  have HB := Lib.hid (show ls.length ≤ 9223372036854775807 by obtain ⟨_, _, _, h1, h2, _⟩ := hv; omega)
  obtain ⟨L, hL⟩ : ∃ L, L = ls.length := ⟨_, rfl⟩
  rw [← hL] at HV HB ⊢
  have HL := Lib.hid hL
  clear hv hlc hL
  go_enter Try.func7, Try.ntmps7
  go_wp2_with fail
  go_loopg [3, 4] 5000 (fun g s3 s4 wr => ∃ k N : Nat, k ≤ 5000 ∧ k ≤ L ∧ g = 5000 - k ∧ s3 = .int .i64 N ∧ s4 = .int .i64 k ∧ N ≤ k * 1001 ∧ wr = w)
  case atStart => exact ⟨0, 0, Nat.zero_le _, Nat.zero_le _, rfl, rfl, rfl, Nat.zero_le _, rfl⟩
  case round =>
    obtain ⟨k, N, hk, hkL, hg, rfl, rfl, hN, rfl⟩ := hrel
    have HG := Lib.hid hg
    clear hg
    by_cases hlt : k < L
    · have hltz : (k : Int) < (L : Int) := by omega
      by_cases h5 : k < 5000
      · have h5z : (k : Int) < 5000 := by omega
        obtain ⟨b, off, c', B, n, d, xs, hA, hat, hxn, hck, hi⟩ := HV.out.row (k := k) (by have := HL.out; omega)
        injection hA with hA hA2 hc
        clear hA2
        subst hA hc
        have HN := Lib.hid hN
        have hN2 : (N : Int) ≤ 5005000 := by omega
        clear hat hi hxn hN hk hkL
        by_cases hm : n ≤ 1000
        · have hmz : (n : Int) ≤ 1000 := by omega
          have hmm : min (n : Int) 1000 = (n : Int) := by omega
          go_wp2_with fail
          go_roundg (5000 - (k + 1))
          case measure => have := HG.out; omega
          case rel => exact ⟨k + 1, N + (n + 1), by omega, by omega, rfl, by go_num, by go_num, by have := HN.out; omega, rfl⟩
        · have hmz : ¬ (n : Int) ≤ 1000 := by omega
          have hmm : min (n : Int) 1000 = 1000 := by omega
          go_wp2_with fail
          go_roundg (5000 - (k + 1))
          case measure => have := HG.out; omega
          case rel => exact ⟨k + 1, N + 1001, by omega, by omega, rfl, by go_num, by go_num, by have := HN.out; omega, rfl⟩
      · have h5z : ¬ (k : Int) < 5000 := by omega
        have hE : ¬ (L : Int) ≤ 4200 := by omega
        go_wp2_with fail
        go_ret
        exact ⟨false, rfl, rfl, fun h => by cases h⟩
    · have hltz : ¬ (k : Int) < (L : Int) := by omega
      by_cases hE : L ≤ 4200
      · have hEz : (L : Int) ≤ 4200 := by omega
        by_cases hF : N ≤ 20000
        · have hFz : (N : Int) ≤ 20000 := by omega
          go_wp2_with fail
          go_ret
          exact ⟨true, rfl, rfl, fun _ => hE⟩
        · have hFz : ¬ (N : Int) ≤ 20000 := by omega
          go_wp2_with fail
          go_ret
          exact ⟨false, rfl, rfl, fun h => by cases h⟩
      · have hEz : ¬ (L : Int) ≤ 4200 := by omega
        go_wp2_with fail
        go_ret
        exact ⟨false, rfl, rfl, fun h => by cases h⟩
end Go.Proofs.Ytaffcpjhaacadaa
