/-
  Two lists of ints held against each other.
  Conditions: none.
-/
import Derived.Test.YtnigoojjbljibaaDoorBase
set_option linter.unusedVariables false
namespace Go.Proofs.YtnigoojjbljibaaDoor
open Go.RowKit

def SameRel (xs ys : List Int) (w : World) (g : Nat) (i : Value) (wr : World) : Prop := ∃ k : Nat, k ≤ xs.length ∧ g = xs.length - k ∧ i = .int .i64 k ∧ xs.take k = ys.take k ∧ Below w.heap.size w wr

theorem take_same {xs ys : List Int} {k : Nat} {x y : Int} (h : xs.take k = ys.take k) (hx : xs[k]? = some x) (hy : ys[k]? = some y) (e : x = y) : xs.take (k + 1) = ys.take (k + 1) := by
  rw [List.take_add_one, List.take_add_one, h, hx, hy, e]

theorem differ {xs ys : List Int} {k : Nat} {x y : Int} (hx : xs[k]? = some x) (hy : ys[k]? = some y) (e : x ≠ y) : xs ≠ ys := by
  rintro rfl
  rw [hx] at hy
  exact e (Option.some.inj hy)

set_option maxHeartbeats 1000000 in
theorem same_any (xs ys : List Int) (u v : Value) (w : World) (hs : IntsAt w u xs) (ht : IntsAt w v ys) :
    Calls Tryd.prog 15 #[u, v] w (RetB (.bool (decide (xs = ys))) w) := by
  obtain ⟨A, c, rfl, hl, hat⟩ := hs
  obtain ⟨B, d, rfl, hm, hbt⟩ := ht
  have HA := Lib.hid hat
  have HB := Lib.hid hbt
  clear hat hbt
  by_cases hne : xs.length = ys.length
  · have HN := Lib.hid hne
    have hn1 : ((xs.length : Int) == (ys.length : Int)) = true := by simp; omega
    have hn2 : ((xs.length : Int) != (ys.length : Int)) = false := by simp; omega
    clear hne
    obtain ⟨m, hm'⟩ : ∃ m, m = ys.length := ⟨_, rfl⟩
    rw [← hm'] at hm hn1 hn2 HN ⊢
    have HM := Lib.hid hm'
    clear hm'
    go_enter Tryd.func15, Tryd.ntmps15
    go_wp2_with fail
    go_loopg [5] xs.length (fun g i wr => SameRel xs ys w g i wr)
    case atStart => exact ⟨0, Nat.zero_le _, rfl, rfl, rfl, Below.refl _ _⟩
    case round =>
      obtain ⟨k, hk, hg, rfl, htk, hbw⟩ := hrel
      have HG := Lib.hid hg
      have HT := Lib.hid htk
      have HW := Lib.hid hbw
      clear hg htk hbw
      by_cases hlt : k < xs.length
      · obtain ⟨x, hx⟩ := ex_at hlt
        obtain ⟨y, hy⟩ := ex_at (xs := ys) (k := k) (by have := HN.out; have := HM.out; omega)
        obtain ⟨b, off, rfl, hb, hc⟩ := HA.out (by omega)
        obtain ⟨b', off', rfl, hb', hc'⟩ := HB.out (by have := HN.out; have := HM.out; omega)
        have hck : wr.cell? ⟨b, off + k, none⟩ = some (.int .i64 x) := (HW.out.cell (p := ⟨b, off + k, none⟩) hb).trans (hc k x hx)
        have hck' : wr.cell? ⟨b', off' + k, none⟩ = some (.int .i64 y) := (HW.out.cell (p := ⟨b', off' + k, none⟩) hb').trans (hc' k y hy)
        have hkm : k < m := by have := HN.out; omega
        have HX := Lib.hid hx
        have HY := Lib.hid hy
        clear hc hc' hx hy
        by_cases hxy : x = y
        · have HE := Lib.hid hxy
          have hxy' : (x == y) = true := by simpa using hxy
          have hxy'' : (x != y) = false := by simpa using hxy
          clear hxy
          go_wp2_with fail
          go_quiet (fail)
          go_wp2_with fail
          go_roundg (xs.length - (k + 1))
          case measure => have := HG.out; omega
          case rel => exact ⟨k + 1, by omega, rfl, by go_num, take_same HT.out HX.out HY.out HE.out, below_drewN HW.out _⟩
        · have E := Lib.hid (decide_eq_false (differ HX.out HY.out hxy))
          have hxy' : (x == y) = false := by simpa using hxy
          have hxy'' : (x != y) = true := by simpa using hxy
          clear hxy
          go_wp2_with fail
          go_quiet (fail)
          go_wp2_with fail
          go_ret
          exact ⟨ret_bool E.out.symm, below_drewN HW.out _⟩
      · have E := Lib.hid (decide_eq_true (show xs = ys by
          have := HT.out
          rwa [List.take_of_length_le (by omega), List.take_of_length_le (by have := HN.out; have := HM.out; omega)] at this))
        go_wp2_with fail
        go_ret
        exact ⟨ret_bool E.out.symm, HW.out⟩
  · have E := Lib.hid (decide_eq_false (show ¬ xs = ys from fun e => hne (by rw [e])))
    have hn1 : ((xs.length : Int) == (ys.length : Int)) = false := by simp; omega
    have hn2 : ((xs.length : Int) != (ys.length : Int)) = true := by simp; omega
    clear hne
    go_enter Tryd.func15, Tryd.ntmps15
    go_wp2_with fail
    go_ret
    exact ⟨ret_bool E.out.symm, Below.refl _ _⟩
end Go.Proofs.YtnigoojjbljibaaDoor
