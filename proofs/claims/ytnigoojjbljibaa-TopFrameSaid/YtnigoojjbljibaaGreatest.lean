/-
  greatestFirst: the indices, the greatest number's first, among equals the first one's.
  Conditions: at most 64 numbers.
-/
import Derived.Test.YtnigoojjbljibaaStable
set_option linter.unusedVariables false
namespace Go.Proofs.Ytnigoojjbljibaa
open Go.RowKit

/-- A row of the call's own: the indices of xs in their order. -/
def RetG (xs : List Int) (w : World) (e : Ending) (w' : World) : Prop :=
  ∃ (g : Nat) (d : Nat → Nat), e = .returned (.slice (some ⟨g, 0, none⟩) xs.length xs.length) ∧ w.heap.size ≤ g ∧ RowAt w' g (lst xs.length d) ∧ Done (fun i => xs.getD i 0) xs.length d ∧ Below w.heap.size w w'

def GreatRel (W0 : World) (g n : Nat) (q : Nat) (s : Value) (wr : World) : Prop :=
  ∃ k : Nat, k ≤ n ∧ q = n - k ∧ s = .int .i64 k ∧ Below g W0 wr ∧ RowAt wr g (fillT (lst n id) k)

set_option maxRecDepth 100000 in
set_option maxHeartbeats 1000000 in
theorem greatest_any (xs : List Int) (v : Value) (w : World) (hv : IntsAt w v xs) (hn : xs.length ≤ 64) :
    Calls Try.prog 12 #[v] w (RetG xs w) := by
  obtain ⟨A, c, rfl, hl, hat⟩ := hv
  have hmk := fun W => mk_ints W xs.length (by omega)
  obtain ⟨W0, hW0⟩ : ∃ W0, W0 = w.alloc (.cells #[.slice A xs.length c] 22) := ⟨_, rfl⟩
  have hsz : W0.heap.size = w.heap.size + 1 := by rw [hW0]; simp
  have hbel : Below w.heap.size w W0 := by rw [hW0]; exact (Below.refl _ _).alloc (Nat.le_refl _) _
  have hI0 : IntsAt W0 (.slice A xs.length c) xs := IntsAt.keep ⟨A, c, rfl, hl, hat⟩ hbel
  have hbox : W0.cell? ⟨w.heap.size, 0, none⟩ = some (.slice A xs.length c) := by
    rw [hW0]; exact cell_of_row _ _ 0 _ _ (0, 0) (heap_alloc_new w _)
  have HC := Lib.hid (less_ok W0 w.heap.size _ xs (by omega) hbox hI0 hn)
  have HBEL := Lib.hid hbel
  have HW0 := Lib.hid hW0
  have HSZ := Lib.hid hsz
  clear hat hbel hI0 hbox hsz
  go_enter Try.func12, Try.ntmps12
  go_wp2_with fail
  clear hmk
  rw [← hW0]
  have hg : w.heap.size + 1 = W0.heap.size := HSZ.out.symm
  rw [hg]
  have HG := Lib.hid hg
  clear hg hW0
  go_loopg [10] xs.length (fun q s wr => GreatRel W0 W0.heap.size xs.length q s wr)
  case atStart =>
    refine ⟨0, Nat.zero_le _, rfl, rfl, (Below.refl _ _).alloc (Nat.le_refl _) _, ?_⟩
    rw [fillT_zero, length_lst]
    exact RowAt.new _ _
  case round =>
    obtain ⟨k, hk, hq, rfl, hbw, hrow⟩ := hrel
    have HQ := Lib.hid hq
    have HW := Lib.hid hbw
    have HRow := Lib.hid hrow
    clear hq hbw hrow
    by_cases hlt : k < xs.length
    · have hc1 : wr.cell? ⟨W0.heap.size, k, none⟩ = some (.int .i64 0) := HRow.out.cell (by rw [fillT_get, if_neg (by omega), if_pos (by rw [length_lst]; exact hlt)])
      have hf1 := HRow.out.frozen k
      have hnew := Lib.hid (HRow.out.set_ k ((k : Nat) : Int))
      have hnew2 := Lib.hid (HW.out.setCell (p := ⟨W0.heap.size, k, none⟩) (Nat.le_refl _) (.int .i64 (k : Int)))
      go_wp2_with fail
      go_roundg (xs.length - (k + 1))
      case measure => have := HQ.out; omega
      case rel =>
        refine ⟨k + 1, by omega, rfl, by go_num, hnew2.out, ?_⟩
        have := hnew.out
        rwa [fillT_set (show (lst xs.length id)[k]? = some ((k : Nat) : Int) from lst_at id hlt)] at this
    · obtain rfl : k = xs.length := by omega
      have hst : St W0 W0.heap.size xs.length id wr := ⟨HW.out, by have := HRow.out; rwa [show fillT (lst xs.length id) xs.length = lst xs.length id from by have := fillT_all (lst xs.length id); rwa [length_lst] at this] at this⟩
      have HSort := Lib.hid (sortStable_any W0 wr W0.heap.size xs.length xs.length _ _ HC.out hst hn)
      clear hst
      go_wp2_with fail
      refine HSort.out.mono ?_
      rintro e w1 ⟨rfl, d, hst1, hd⟩
      have HF : Hid (RetG xs w (.returned (.slice (some ⟨W0.heap.size, 0, none⟩) xs.length xs.length)) w1) :=
        ⟨W0.heap.size, d, rfl, by have := HSZ.out; omega, hst1.2, hd, HBEL.out.trans (hst1.1.mono (by have := HSZ.out; omega))⟩
      clear hst1 hd
      go_wp2_with fail
      go_ret
      exact HF.out
end Go.Proofs.Ytnigoojjbljibaa
