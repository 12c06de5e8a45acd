/-
  Seats, one by one: both functions; the quotas.
  Conditions: weights and total that are right.
-/
import Derived.Test.YtbmdbjecjiolpaaRow
import Derived.RegionTactic
set_option linter.unusedVariables false
namespace Go.Proofs.Ytbmdbjecjiolpaa
open Go.RowKit

/-- What a call answers that makes a list. -/
def RetI (xs : List Int) (w : World) (e : Ending) (w' : World) : Prop := ∃ v, e = .returned v ∧ IntsAt w' v xs ∧ Below w.heap.size w w'
/-- .. with an error's number. -/
def RetIE (xs : List Int) (err : Int) (w : World) (e : Ending) (w' : World) : Prop := ∃ v, e = .returned (.tuple #[v, .int .i64 err]) ∧ IntsAt w' v xs ∧ Below w.heap.size w w'

theorem gr_step {ws : List Int} {k b : Nat} {y : Int} (hb : nextL ws (gr ws k) = some b) (hy : (gr ws k)[b]? = some y) : (gr ws k).set b (y + 1) = gr ws (k + 1) := by
  rw [gr, hb]
  simp only [bump]
  rw [getD_of hy]

theorem fits_at {hs : List Int} {n : Int} (h : Fits hs n) {b : Nat} {y : Int} (hy : hs[b]? = some y) : 0 ≤ y ∧ y ≤ n := by
  have := h b
  rwa [getD_of hy] at this

def RefSeatsRel (ws : List Int) (n : Nat) (w : World) (q : Nat) (s6 : Value) (wr : World) : Prop :=
  ∃ k : Nat, k ≤ n ∧ q = n - k ∧ s6 = .int .i64 k ∧ Below w.heap.size w wr ∧ RowAt wr w.heap.size (gr ws k)

set_option maxHeartbeats 1000000 in
theorem refSeats_any (n : Nat) (ws : List Int) (v : Value) (w : World) (hu : IntsAt w v ws) (hr : Right ws) (hn : n ≤ 1048576) :
    Calls Try.prog 20 #[.int .i64 n, v] w (RetI (gr ws n) w) := by
  have HU := Lib.hid hu
  obtain ⟨A, c, rfl, hl, hat⟩ := hu
  have HR := Lib.hid hr
  have l1 := hr.1
  have l0 := hr.pos
  clear hat hr
  have hmk := fun W => mk_ints W ws.length (by omega)
  go_enter Try.func20, Try.ntmps20
  go_wp2_with fail
  clear hmk
  go_loopg [6] n (fun q s6 wr => RefSeatsRel ws n w q s6 wr)
  case atStart => exact ⟨0, Nat.zero_le _, rfl, rfl, (Below.refl _ _).alloc (Nat.le_refl _) _, RowAt.new _ _⟩
  case round =>
    obtain ⟨k, hk, hg, rfl, hbw, hrow⟩ := hrel
    have HG := Lib.hid hg
    have HW := Lib.hid hbw
    have HRow := Lib.hid hrow
    clear hg hbw hrow
    by_cases hlt : k < n
    · obtain ⟨b, hb, hbl, hwb⟩ := next_gr HR.out (n := k) (by omega)
      have HNX := Lib.hid hb
      have hglen := length_gr ws k
      have HI : Hid (IntsAt wr (.slice (some ⟨w.heap.size, 0, none⟩) ws.length ws.length) (gr ws k)) := by
        have := HRow.out.ints (by omega) ws.length
        rwa [hglen] at this
      have HC := refNext_any ws (gr ws k) _ _ wr (HU.out.keep HW.out) HI.out
      rw [hb] at HC
      have HC := Lib.hid HC
      obtain ⟨y, hy⟩ := ex_at (xs := gr ws k) (k := b) (by omega)
      have HY := Lib.hid hy
      obtain ⟨y1, y2⟩ := fits_at (fits_gr ws k) hy
      clear hb hwb hglen hy
      go_wp2_with fail
      refine HC.out.mono ?_
      rintro e w1 ⟨rfl, hb1⟩
      have HB1 := Lib.hid hb1
      have hrow1 := HRow.out.below hb1 HRow.out.lt
      have HRow1 := Lib.hid hrow1
      have hck := hrow1.cell HY.out
      have hfz := hrow1.frozen b
      clear hb1 hrow1
      simp only [nextV]
      go_wp2_with fail
      go_roundg (n - (k + 1))
      case measure => have := HG.out; omega
      case rel =>
        refine ⟨k + 1, by omega, rfl, by go_num, ?_, ?_⟩
        · exact (HW.out.trans (HB1.out.mono HW.out.size)).setCell (Nat.le_refl _) _
        · rw [← gr_step HNX.out HY.out]
          exact HRow1.out.set_ b (y + 1)
    · obtain rfl : k = n := by omega
      go_wp2_with fail
      go_ret
      refine ⟨_, rfl, ?_, HW.out⟩
      have := HRow.out.ints (by rw [length_gr]; omega) ws.length
      rwa [length_gr] at this
end Go.Proofs.Ytbmdbjecjiolpaa
