/-
  Numbers of 128 bits: Sum and Twice, as numbers.
  Conditions: each half is below 2^64.
-/
import Derived.Test.YtademjmnoncieaaShelf
import Derived.Test.YtademjmnoncieaaRows
import Derived.WalkKit
import Derived.WalkLawsBesides
import Derived.Below
import Derived.Lib.Hide
import Derived.Handy
import Derived.ProofKit
import Derived.OpenShut
set_option linter.unusedVariables false
namespace Go.Proofs.Ytademjmnoncieaa
open Go.RowKit

/-- A variable of 128 bits: its block. -/
def WideAt (w : World) (b h l : Nat) : Prop := w.heap[b]? = some (.cells #[.int .u64 h, .int .u64 l] 66 (0, 0))

theorem WideAt.lt {w : World} {b h l : Nat} (k : WideAt w b h l) : b < w.heap.size := (Array.getElem?_eq_some_iff.1 k).1

theorem WideAt.cells {w : World} {b h l : Nat} (k : WideAt w b h l) :
    w.cell? ⟨b, 0, none⟩ = some (.int .u64 h) ∧ w.cell? ⟨b, 1, none⟩ = some (.int .u64 l) ∧ w.frozen? ⟨b, 0, none⟩ = false ∧ w.frozen? ⟨b, 1, none⟩ = false := by
  unfold WideAt at k
  refine ⟨?_, ?_, ?_, ?_⟩ <;> simp [World.cell?, World.frozen?, k]

theorem WideAt.kept {w w' : World} {B b h l : Nat} (k : WideAt w b h l) (hb : Below B w w') (hB : b < B) : WideAt w' b h l := (hb.block b hB).trans k
theorem WideAt.later {w w' : World} {b h l : Nat} (k : WideAt w b h l) (hb : Below w.heap.size w w') : WideAt w' b h l := k.kept hb k.lt

theorem heap_setCell_at (w : World) (b o : Nat) (cs : Array Value) (T : TypeId) (fr : Nat × Nat) (x : Value) (h : w.heap[b]? = some (.cells cs T fr)) : (w.setCell ⟨b, o, none⟩ x).heap[b]? = some (.cells (cs.setIfInBounds o x) T fr) := by
  have hlt := (Array.getElem?_eq_some_iff.1 h).1
  have h' : w.heap[b] = .cells cs T fr := by simpa [Array.getElem?_eq_getElem hlt] using h
  show (w.heap.modify b _)[b]? = _
  rw [Array.getElem?_eq_getElem (by simpa using hlt), Array.getElem_modify_self, h']
  rfl

theorem wideAt_new (w : World) (n h l : Nat) (hn : n = w.heap.size) : WideAt (w.alloc (.cells #[.int .u64 h, .int .u64 l] 66)) n h l := by
  subst hn
  exact Array.getElem?_push_size

theorem WideAt.half {w : World} {b h l : Nat} (k : WideAt w b h l) (x : Value) : (w.setCell ⟨b, 0, none⟩ x).cell? ⟨b, 0, none⟩ = some x := by
  have e := heap_setCell_at w b 0 _ _ _ x k
  simp [World.cell?, e]

/-- Both halves, written. -/
def setWide (w : World) (b : Nat) (h l : Int) : World := (w.setCell ⟨b, 0, none⟩ (.int .u64 h)).setCell ⟨b, 1, none⟩ (.int .u64 l)

theorem setWide_at {w : World} {b h l : Nat} (k : WideAt w b h l) (h' l' : Nat) : WideAt (setWide w b h' l') b h' l' :=
  heap_setCell_at _ _ _ _ _ _ _ (heap_setCell_at _ _ _ _ _ _ _ k)
theorem setWide_other {w : World} {b c h l : Nat} (k : WideAt w c h l) (hne : c ≠ b) (h' l' : Int) : WideAt (setWide w b h' l') c h l := by
  unfold WideAt setWide
  rw [Below.heap_setCell _ _ _ _ hne, Below.heap_setCell _ _ _ _ hne]
  exact k
theorem setWide_below {w w' : World} {B b : Nat} (k : Below B w w') (hb : B ≤ b) (h' l' : Int) : Below B w (setWide w' b h' l') := (k.setCell hb _).setCell hb _
theorem setWide_size (w : World) (b : Nat) (h l : Int) : (setWide w b h l).heap.size = w.heap.size := by simp [setWide]

theorem addHi {h1 l1 h2 l2 : Nat} (hl : l1 + l2 < 18446744073709551616) : (h1 + h2 + (l1 + l2) / 18446744073709551616) % 18446744073709551616 = (h1 + h2) % 18446744073709551616 := by
  rw [Nat.div_eq_of_lt hl, Nat.add_zero]

set_option maxHeartbeats 1000000 in
theorem sum_any (h1 l1 h2 l2 : Nat) (b1 : h1 < 18446744073709551616) (b2 : l1 < 18446744073709551616) (b3 : h2 < 18446744073709551616) (b4 : l2 < 18446744073709551616) (w : World) :
    Calls Try.prog 38 #[.agg #[.int .u64 h1, .int .u64 l1], .agg #[.int .u64 h2, .int .u64 l2]] w fun e w' => e = .returned (.agg #[.int .u64 (((h1 + h2 + (l1 + l2) / 18446744073709551616) % 18446744073709551616 : Nat) : Int), .int .u64 (((l1 + l2) % 18446744073709551616 : Nat) : Int)]) ∧ Below w.heap.size w w' := by
  by_cases hl : l1 + l2 < 18446744073709551616
  · have c1 : (IntKind.u64.wrap ((l1 : Int) + (l2 : Int)) < (l1 : Int)) = False := by rw [IntKind.wrap_u64]; simp; omega
    go_enter Try.func38, Try.ntmps38
    go_wp2
    go_returns
    have e1 : IntKind.u64.wrap ((h1 : Int) + (h2 : Int)) = (((h1 + h2 + (l1 + l2) / 18446744073709551616) % 18446744073709551616 : Nat) : Int) := by rw [IntKind.wrap_u64]; omega
    have e2 : (l1 : Int) + (l2 : Int) = (((l1 + l2) % 18446744073709551616 : Nat) : Int) := by omega
    rw [e1, e2]
    exact ⟨rfl, by go_grown⟩
  · have c1 : (IntKind.u64.wrap ((l1 : Int) + (l2 : Int)) < (l1 : Int)) = True := by rw [IntKind.wrap_u64]; simp; omega
    go_enter Try.func38, Try.ntmps38
    go_wp2
    go_returns
    have e1 : IntKind.u64.wrap (IntKind.u64.wrap ((h1 : Int) + (h2 : Int)) + 1) = (((h1 + h2 + (l1 + l2) / 18446744073709551616) % 18446744073709551616 : Nat) : Int) := by rw [IntKind.wrap_u64, IntKind.wrap_u64]; omega
    have e2 : IntKind.u64.wrap ((l1 : Int) + (l2 : Int)) = (((l1 + l2) % 18446744073709551616 : Nat) : Int) := by rw [IntKind.wrap_u64]; omega
    rw [e1, e2]
    exact ⟨rfl, by go_grown⟩

/-- Twice a number, and a bit. -/
theorem or_bit (x b : Nat) (hb : b < 2) : bits BinOp.or IntKind.u64 (IntKind.u64.wrap ((x : Int) * 2)) (b : Int) = (((2 * x + b) % 18446744073709551616 : Nat) : Int) := by
  have e1 : IntKind.u64.wrap ((x : Int) * 2) = ((2 ^ 1 * (x % 9223372036854775808) : Nat) : Int) := by rw [IntKind.wrap_u64]; omega
  rw [e1, bits_or_u64_nat _ _ (by omega) (by omega), ← Nat.two_pow_add_eq_or_of_lt (i := 1) (by omega)]
  omega

set_option maxHeartbeats 4000000 in
theorem twice_any (h l b : Nat) (b1 : h < 18446744073709551616) (b2 : l < 18446744073709551616) (b3 : b < 2) (w : World) :
    Calls Try.prog 37 #[.agg #[.int .u64 h, .int .u64 l], .int .u64 b] w fun e w' => e = .returned (.tuple #[.agg #[.int .u64 (((2 * h + l / 9223372036854775808) % 18446744073709551616 : Nat) : Int), .int .u64 (((2 * l + b) % 18446744073709551616 : Nat) : Int)], .bool (decide (h < 9223372036854775808))]) ∧ Below w.heap.size w w' := by
  have e1 := or_bit h (l / 9223372036854775808) (by omega)
  have e2 := or_bit l b b3
  have e3 : ((h : Int) / 9223372036854775808 == 0) = decide (h < 9223372036854775808) := by
    rw [Bool.eq_iff_iff]; simp; omega
  have E1 := Lib.hid e1
  have E2 := Lib.hid e2
  have E3 := Lib.hid e3
  clear e1 e2 e3
  go_enter Try.func37, Try.ntmps37
  go_wp2
  go_region
  go_wp2
  go_returns
  have e1 := E1.out
  rw [Int.natCast_ediv] at e1
  rw [show ((9223372036854775808 : Nat) : Int) = 9223372036854775808 from rfl] at e1
  rw [e1, E2.out, E3.out]
  exact ⟨rfl, by go_grown⟩
/-- A number of 128 bits, by its halves. -/
def IsWide (n h l : Nat) : Prop := h < 18446744073709551616 ∧ l < 18446744073709551616 ∧ h * 18446744073709551616 + l = n

theorem sum_num (h1 l1 h2 l2 n m : Nat) (k1 : IsWide n h1 l1) (k2 : IsWide m h2 l2) (w : World) :
    Calls Try.prog 38 #[.agg #[.int .u64 h1, .int .u64 l1], .agg #[.int .u64 h2, .int .u64 l2]] w fun e w' => ∃ h l : Nat, e = .returned (.agg #[.int .u64 h, .int .u64 l]) ∧ IsWide ((n + m) % 340282366920938463463374607431768211456) h l ∧ Below w.heap.size w w' := by
  obtain ⟨a1, a2, a3⟩ := k1
  obtain ⟨c1, c2, c3⟩ := k2
  refine (sum_any h1 l1 h2 l2 a1 a2 c1 c2 w).mono fun e w' h => ⟨_, _, h.1, ⟨by omega, by omega, ?_⟩, h.2⟩
  subst a3 c3
  omega

theorem twice_num (h l b n : Nat) (k : IsWide n h l) (b3 : b < 2) (w : World) :
    Calls Try.prog 37 #[.agg #[.int .u64 h, .int .u64 l], .int .u64 b] w fun e w' => ∃ (h' l' : Nat) (t : Bool), e = .returned (.tuple #[.agg #[.int .u64 h', .int .u64 l'], .bool t]) ∧ IsWide ((2 * n + b) % 340282366920938463463374607431768211456) h' l' ∧ Below w.heap.size w w' := by
  obtain ⟨a1, a2, a3⟩ := k
  refine (twice_any h l b a1 a2 b3 w).mono fun e w' h => ⟨_, _, _, h.1, ⟨by omega, by omega, ?_⟩, h.2⟩
  subst a3
  omega
end Go.Proofs.Ytademjmnoncieaa
