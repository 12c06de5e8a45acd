/-
  math/bits.TrailingZeros64; the program's Next and the document's.
  Conditions: the numbers are of their kinds; the table of math/bits is as start-up lays it.
-/
import Derived.Test.YtademjmnoncieaaDoorRefEnds
import Derived.Shelf.Spec.TrailingZeros
set_option linter.unusedVariables false
namespace Go.Proofs.YtademjmnoncieaaDoor
open Go.RowKit

theorem ret_pair {k : IntKind} {a b : Nat} {c : Bool} (h : a = b) : Ending.returned (.tuple #[.int k a, .bool c]) = .returned (.tuple #[.int k b, .bool c]) := by rw [h]

/-- The table of math/bits. -/
def Tab (w : World) : Prop := Go.Proofs.TabAt 0 Lib.deBruijn64tab w ∧ 0 < w.heap.size
theorem Tab.later {w w' : World} (h : Tab w) (hb : Below w.heap.size w w') : Tab w' :=
  ⟨fun j hj => (hb.cell (p := ⟨0, j, none⟩) h.2).trans (h.1 j hj), Nat.lt_of_lt_of_le h.2 hb.size⟩

set_option maxHeartbeats 1000000 in
theorem tz_zero (w : World) : Calls Tryd.prog 19 #[.int .u64 0] w (Ret (.int .i64 64) w) := by
  go_enter Tryd.func19, Tryd.ntmps19
  go_wp2
  go_ret
  exact ⟨rfl, rfl⟩

set_option maxHeartbeats 1000000 in
theorem tz_core (x k idx : Nat) (w : World) (hx0 : ((x : Int) == 0) = false)
    (key : IntKind.u64.wrap (bits BinOp.and IntKind.u64 (x : Int) (IntKind.u64.wrap (-(x : Int))) * 285870213051353865) / 288230376151711744 = (idx : Int))
    (hi : idx < 64) (hk : k < 64) (hcell : w.cell? ⟨0, idx, none⟩ = some (.int .u8 k)) :
    Calls Tryd.prog 19 #[.int .u64 x] w (Ret (.int .i64 k) w) := by
  go_enter Tryd.func19, Tryd.ntmps19
  go_wp2_with (simp only [key])
  go_ret
  exact ⟨rfl, rfl⟩

theorem tz_any (x : Nat) (w : World) (hx : x < 18446744073709551616) (hT : Tab w) : Calls Tryd.prog 19 #[.int .u64 x] w (Ret (.int .i64 (Lib.ctz 64 x)) w) := by
  by_cases hx0 : x = 0
  · subst hx0
    exact tz_zero w
  · obtain ⟨hlow, hk⟩ := Lib.lowest_bit 64 x hx0 hx
    obtain ⟨hi, htab⟩ := Lib.deBruijn64_at _ hk
    have hcell := hT.1 _ hi
    rw [htab] at hcell
    exact tz_core x _ _ w (by simp; omega) (tz64_key x _ hx hx0 hlow) hi hk hcell

/-- The ticks from one on. -/
def fromN (m : Nat) (t : Int) : Nat := lessN m (allN (frN t))
theorem fromN_lt (m : Nat) (t : Int) : fromN m t < 18446744073709551616 := by unfold fromN lessN; exact setP_lt _
theorem fromN_bit (m : Nat) (t : Int) (j : Nat) : (fromN m t).testBit j = (decide (j < 64) && (m.testBit j && decide (t ≤ j))) := by
  unfold fromN lessN
  rw [setP_bit, allN_bit]
  by_cases hj : j < 64
  · have e : (!decide (j < frN t)) = decide (t ≤ j) := by
      by_cases h : j < frN t
      · have h' : ¬ t ≤ (j : Int) := by unfold frN at h; omega
        simp [h, h']
      · have h' : t ≤ (j : Int) := by unfold frN at h; omega
        simp [h, h']
    rw [e]
  · simp [hj]
/-- What Next names. -/
def nextN (m : Nat) (t : Int) : Nat := if fromN m t = 0 then Lib.ctz 64 m else Lib.ctz 64 (fromN m t)

/-- The first i ticks are below t. -/
def Low (m : Nat) (t : Int) (i : Nat) : Prop := ∀ k, k < i → ∀ j, (ticks m)[k]? = some j → (j : Int) < t
theorem Low.zero (m : Nat) (t : Int) : Low m t 0 := fun k hk => absurd hk (Nat.not_lt_zero k)
theorem Low.succ {m : Nat} {t : Int} {i j : Nat} (h : Low m t i) (hj : (ticks m)[i]? = some j) (hlt : (j : Int) < t) : Low m t (i + 1) := by
  intro k hk j' hj'
  rcases Nat.lt_or_ge k i with h1 | h1
  · exact h k h1 j' hj'
  · have : k = i := by omega
    subst this
    rw [hj] at hj'
    obtain rfl := Option.some.inj hj'
    exact hlt
theorem next_found {m : Nat} {t : Int} {i j : Nat} (h : Low m t i) (hj : (ticks m)[i]? = some j) (hge : t ≤ (j : Int)) : nextN m t = j := by
  obtain ⟨j64, hb, hc⟩ := (tick_iff m i j).1 hj
  have hbit : (fromN m t).testBit j = true := by rw [fromN_bit]; simp [j64, hb, hge]
  have h0 := ne_zero_of hbit
  unfold nextN
  rw [if_neg h0]
  obtain ⟨c1, c2, c3⟩ := ctz_low h0 (fromN_lt m t)
  refine low_unique c1 hbit c3 (fun i' hi' => ?_)
  rw [fromN_bit]
  cases hb' : m.testBit i'
  · simp
  · have h64 : i' < 64 := by omega
    have hk : (ticks m)[cntT m i']? = some i' := (tick_iff m _ i').2 ⟨h64, hb', rfl⟩
    have := h (cntT m i') (by rw [← hc]; exact cntT_lt m hi' hb') i' hk
    have : ¬ t ≤ (i' : Int) := by omega
    simp [this]
theorem next_lowest {m : Nat} {t : Int} {j : Nat} (h : Low m t (cnt m)) (hj : (ticks m)[0]? = some j) (hm : m < 18446744073709551616) : nextN m t = j := by
  obtain ⟨j64, hb, hc⟩ := (tick_iff m 0 j).1 hj
  have h0 : fromN m t = 0 := by
    apply Classical.byContradiction
    intro hn
    obtain ⟨i, hi, hib⟩ := ne_zero_bit (fromN_lt m t) hn
    rw [fromN_bit] at hib
    simp at hib
    have hk : (ticks m)[cntT m i]? = some i := (tick_iff m _ i).2 ⟨hi, hib.2.1, rfl⟩
    have hlt : cntT m i < cnt m := cntT_lt m hi hib.2.1
    have := h _ hlt i hk
    omega
  unfold nextN
  rw [if_pos h0]
  have hm0 := ne_zero_of hb
  obtain ⟨c1, c2, c3⟩ := ctz_low hm0 hm
  refine low_unique c1 hb c3 (fun i hi => ?_)
  cases hb' : m.testBit i
  · rfl
  · have := cntT_lt m hi hb'
    omega

def NextRel4 (m : Nat) (t : Int) (c : Nat) (i : Value) : Prop := ∃ k : Nat, k ≤ c ∧ i = .int .i64 k ∧ Low m t k
end Go.Proofs.YtademjmnoncieaaDoor
