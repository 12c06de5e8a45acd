/-
  A slice that reads as a list of ints; the sums of a list; both 'sum's.
  Conditions: where a sum is taken: at most 64 numbers, each from -2^40 to 2^40.
-/
import Derived.Test.YtademjmnoncieaaProg
import Derived.WalkKit
import Derived.WalkLawsBesides
import Derived.Below
import Derived.Lib.Hide
import Derived.Handy
import Derived.ProofKit
import Derived.Deep.LoopGhost
import Derived.Deep.QuietTactic
import Derived.BigQuiet
import Derived.IntWalk
import Derived.LoopTactic
set_option linter.unusedVariables false
namespace Go.Proofs.Ytademjmnoncieaa
open Go.RowKit

/-- The slice value 'v' reads as the numbers 'xs'; it lies in memory that is there. -/
def IntsAt (W : World) (v : Value) (xs : List Int) : Prop :=
  ∃ A c, v = .slice A xs.length c ∧ xs.length ≤ 9223372036854775807 ∧
    (0 < xs.length → ∃ b off, A = some ⟨b, off, none⟩ ∧ b < W.heap.size ∧ ∀ (j : Nat) (x : Int), xs[j]? = some x → W.cell? ⟨b, off + j, none⟩ = some (.int .i64 x))

theorem IntsAt.nil (W : World) : IntsAt W (.slice none 0 0) [] := ⟨none, 0, rfl, by decide, fun h => absurd h (by decide)⟩

theorem IntsAt.keep {W W' : World} {v : Value} {xs : List Int} (h : IntsAt W v xs) (hb : Below W.heap.size W W') : IntsAt W' v xs := by
  obtain ⟨A, c, h1, h2, h3⟩ := h
  refine ⟨A, c, h1, h2, fun hn => ?_⟩
  obtain ⟨b, off, e, hlt, hc⟩ := h3 hn
  exact ⟨b, off, e, Nat.lt_of_lt_of_le hlt hb.size, fun j x hx => (hb.cell (p := ⟨b, off + j, none⟩) hlt).trans (hc j x hx)⟩

/-- What a call answers that reads only. -/
def Ret (v : Value) (w : World) (e : Ending) (w' : World) : Prop := e = .returned v ∧ w = w'
/-- What a call answers that makes memory, and leaves all that was. -/
def RetB (v : Value) (w : World) (e : Ending) (w' : World) : Prop := e = .returned v ∧ Below w.heap.size w w'

def sumT (xs : List Int) (k : Nat) : Int := (xs.take k).sum
def sumL (xs : List Int) : Int := xs.sum

theorem sumT_zero (xs : List Int) : sumT xs 0 = 0 := rfl
theorem sumT_succ {xs : List Int} {k : Nat} {x : Int} (h : xs[k]? = some x) : sumT xs (k + 1) = sumT xs k + x := by
  unfold sumT
  rw [List.take_add_one, h]
  simp
theorem sumT_all {xs : List Int} {k : Nat} (h : xs.length ≤ k) : sumT xs k = sumL xs := by
  unfold sumT sumL
  rw [List.take_of_length_le h]

/-- Few numbers, none of them great. -/
def Small (xs : List Int) : Prop := xs.length ≤ 64 ∧ ∀ x ∈ xs, -1099511627776 ≤ x ∧ x ≤ 1099511627776

theorem Small.at {xs : List Int} (h : Small xs) {k : Nat} {x : Int} (hx : xs[k]? = some x) : -1099511627776 ≤ x ∧ x ≤ 1099511627776 := h.2 x (List.mem_of_getElem? hx)
theorem Small.sumT {xs : List Int} (h : Small xs) : ∀ k, k ≤ xs.length → -1099511627776 * (k : Int) ≤ sumT xs k ∧ sumT xs k ≤ 1099511627776 * (k : Int)
  | 0, _ => by rw [sumT_zero]; omega
  | k + 1, hk => by
    have := Small.sumT h k (by omega)
    have hx : xs[k]? = some xs[k] := List.getElem?_eq_getElem (by omega)
    have := h.at hx
    rw [sumT_succ hx]
    omega
theorem Small.bound {xs : List Int} (h : Small xs) {k : Nat} (hk : k ≤ xs.length) : -70368744177664 ≤ Go.Proofs.Ytademjmnoncieaa.sumT xs k ∧ Go.Proofs.Ytademjmnoncieaa.sumT xs k ≤ 70368744177664 := by
  have := h.sumT k hk
  have := h.1
  omega

theorem ex_at {xs : List Int} {k : Nat} (h : k < xs.length) : ∃ x, xs[k]? = some x := ⟨xs[k], List.getElem?_eq_getElem h⟩

theorem ret_int {k : IntKind} {a b : Int} (h : a = b) : Ending.returned (.int k a) = .returned (.int k b) := by rw [h]

def SumRel (xs : List Int) (s i : Value) : Prop := ∃ k : Nat, k ≤ xs.length ∧ i = .int .i64 k ∧ s = .int .i64 (sumT xs k)

set_option maxHeartbeats 1000000 in
theorem sum3_any (xs : List Int) (v : Value) (w : World) (hs : IntsAt w v xs) (hsm : Small xs) :
    Calls Try.prog 31 #[v] w (Ret (.int .i64 (sumL xs)) w) := by
  obtain ⟨A, c, rfl, hl, hat⟩ := hs
  have HA := Lib.hid hat
  have HS := Lib.hid hsm
  have hl64 := hsm.1
  clear hat hsm hl
  go_enter Try.func31, Try.ntmps31
  go_wp2
  go_loop [3, 8] (fun s i => SumRel xs s i) (fun _ i => xs.length - (intOf i).toNat)
  case atStart => exact ⟨0, Nat.zero_le _, rfl, rfl⟩
  case round =>
    obtain ⟨k, hk, rfl, rfl⟩ := hrel
    obtain ⟨b1, b2⟩ := HS.out.bound hk
    by_cases hlt : k < xs.length
    · obtain ⟨x, hx⟩ := ex_at hlt
      obtain ⟨b, off, rfl, hb, hc⟩ := HA.out (by omega)
      have hck := hc k x hx
      have HX := Lib.hid hx
      obtain ⟨x1, x2⟩ := HS.out.at hx
      clear hc hx
      obtain ⟨s, hs⟩ : ∃ s, s = sumT xs k := ⟨_, rfl⟩
      rw [← hs] at b1 b2 ⊢
      have HSs := Lib.hid hs
      clear hs
      go_wp2
      go_round
      case rel => exact ⟨k + 1, by omega, by go_num, by rw [sumT_succ HX.out, HSs.out]⟩
      case measure => simp [intOf]; omega
    · go_wp2
      go_ret
      exact ⟨ret_int (sumT_all (by omega)), rfl⟩
end Go.Proofs.Ytademjmnoncieaa
