/-
  The document's Same of rows.
  Conditions: none.
-/
import Derived.Test.YtaffcpjhaacadaaLists
import Derived.Test.YtaffcpjhaacadaaEqual
set_option linter.unusedVariables false
namespace Go.Proofs.Ytaffcpjhaacadaa
open Go.RowKit

theorem take_row {R T : List (List Int)} {k : Nat} {x y : List Int} (h : R.take k = T.take k) (hx : R[k]? = some x) (hy : T[k]? = some y) (e : x = y) : R.take (k + 1) = T.take (k + 1) := by
  rw [List.take_add_one, List.take_add_one, h, hx, hy, e]
theorem differ_row {R T : List (List Int)} {k : Nat} {x y : List Int} (hx : R[k]? = some x) (hy : T[k]? = some y) (e : x ≠ y) : R ≠ T := by
  rintro rfl
  rw [hx] at hy
  exact e (Option.some.inj hy)

set_option maxRecDepth 100000 in
set_option maxHeartbeats 2000000 in
theorem refRows_any (u v : Value) (ls ms : List (Value × List Int)) (w : World) (hu : RowsAt w u ls) (hv : RowsAt w v ms) : Calls Try.prog 15 #[u, v] w (RetD (.bool (decide (rowsOf ls = rowsOf ms))) w) := by
  have HU := Lib.hid hu
  have HV := Lib.hid hv
  have hub := hu.bound
  have hvb := hv.bound
  obtain ⟨A, c, rfl, _⟩ := hu.form
  obtain ⟨B, d, rfl, _⟩ := hv.form
  have HRL := Lib.hid (rowsOf_length ls)
  have HTL := Lib.hid (rowsOf_length ms)
  generalize hn : ls.length = n at *
  generalize hm : ms.length = m at *
  have HN := Lib.hid hn
  have HM := Lib.hid hm
  clear hu hv hn hm
  by_cases hnm : n = m
  · subst hnm
    have hn1 : ((n : Int) == (n : Int)) = true := by simp
    have hn2 : ((n : Int) != (n : Int)) = false := by simp
    go_enter Try.func15, Try.ntmps15
    go_wp2_with fail
    go_loopg [5] n (fun g s5 wr => ∃ k : Nat, k ≤ n ∧ g = n - k ∧ s5 = .int .i64 k ∧ (rowsOf ls).take k = (rowsOf ms).take k ∧ ∃ q, wr = w.drewN q)
    case atStart => exact ⟨0, Nat.zero_le _, rfl, rfl, rfl, 0, rfl⟩
    case round =>
      obtain ⟨k, hk, hg, rfl, htk, q, hq⟩ := hrel
      have HG := Lib.hid hg
      have HT := Lib.hid htk
      have HQ := Lib.hid hq
      have HW := Lib.hid (show Below w.heap.size w wr by rw [hq]; exact below_drewN (Below.refl _ _) q)
      clear hg htk hq
      by_cases hlt : k < n
      · have hltz : (k : Int) < (n : Int) := by omega
        obtain ⟨b, off, rfl⟩ := HU.out.addr (by have := HN.out; omega)
        obtain ⟨b', off', rfl⟩ := HV.out.addr (by have := HM.out; omega)
        obtain ⟨C1, x1, d1, xs, hat1, hxn1, hck1, hi1⟩ := HU.out.row_at (k := k) (by have := HN.out; omega)
        obtain ⟨C2, x2, d2, ys, hat2, hxn2, hck2, hi2⟩ := HV.out.row_at (k := k) (by have := HM.out; omega)
        have hcu := (HW.out.cell (p := ⟨b, off + k, none⟩) (HU.out.blk (by have := HN.out; omega))).trans hck1
        have hcv := (HW.out.cell (p := ⟨b', off' + k, none⟩) (HV.out.blk (by have := HM.out; omega))).trans hck2
        have HX := Lib.hid (snd_at hat1)
        have HY := Lib.hid (snd_at hat2)
        have HC := Lib.hid (fun q => refInts_any xs ys _ _ (wr.drewN q) ((hi1.keep HW.out).draw q) ((hi2.keep HW.out).draw q))
        clear hat1 hat2 hxn1 hxn2 hck1 hck2 hi1 hi2
        by_cases hxy : xs = ys
        · have HE := Lib.hid hxy
          rw [decide_eq_true hxy] at HC
          clear hxy
          go_wp2_with fail
          go_quiet (first | (go_at_call 25; exact quiet_retD (HC.out _)))
          go_wp2_with fail
          go_roundg (n - (k + 1))
          case measure => have := HG.out; omega
          case rel => exact ⟨k + 1, by omega, rfl, by go_num, take_row HT.out HX.out HY.out HE.out, _, by rw [HQ.out, World.drewN_drewN]⟩
        · have E := Lib.hid (decide_eq_false (differ_row HX.out HY.out hxy))
          rw [decide_eq_false hxy] at HC
          clear hxy
          go_wp2_with fail
          go_quiet (first | (go_at_call 25; exact quiet_retD (HC.out _)))
          go_wp2_with fail
          go_ret
          exact ⟨ret_bool E.out.symm, _, by rw [HQ.out, World.drewN_drewN]⟩
      · have hltz : ¬ (k : Int) < (n : Int) := by omega
        have E := Lib.hid (decide_eq_true (show rowsOf ls = rowsOf ms by
          have := HT.out
          rwa [List.take_of_length_le (by have := HRL.out; omega), List.take_of_length_le (by have := HTL.out; omega)] at this))
        go_wp2_with fail
        go_ret
        exact ⟨ret_bool E.out.symm, _, HQ.out⟩
  · have E := Lib.hid (decide_eq_false (show ¬ rowsOf ls = rowsOf ms from fun e => hnm (by have h := congrArg List.length e; have := HRL.out; have := HTL.out; omega)))
    have hn1 : ((n : Int) == (m : Int)) = false := by simp; omega
    have hn2 : ((n : Int) != (m : Int)) = true := by simp; omega
    clear hnm
    go_enter Try.func15, Try.ntmps15
    go_wp2_with fail
    go_ret
    exact ⟨ret_bool E.out.symm, 0, rfl⟩
end Go.Proofs.Ytaffcpjhaacadaa
