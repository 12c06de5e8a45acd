/-
  RowCounts walked.
  Conditions: none.
-/
import Derived.Test.YtaffcpjhaacadaaAwake
import Derived.Test.YtaffcpjhaacadaaCounts
import Derived.Test.YtaffcpjhaacadaaLight
set_option linter.unusedVariables false
namespace Go.Proofs.Ytaffcpjhaacadaa
open Go.RowKit

theorem all_snoc {R : List (List Int)} {k : Nat} {xs : List Int} (h : R[k]? = some xs) : (R.take (k + 1)).all aloneB = ((R.take k).all aloneB && aloneB xs) := by
  rw [List.take_add_one, h, List.all_append]
  simp

set_option maxRecDepth 100000 in
set_option maxHeartbeats 4000000 in
theorem counts_law (v : Value) (ls : List (Value × List Int)) (t : Int) (w : World) (hv : RowsAt w v ls) : Calls Try.prog 6 #[v, .int .i64 t] w (RetB (.bool true) w) := by
  have HV := Lib.hid hv
  obtain ⟨A, c, rfl, _⟩ := hv.form
  have HB0 := Lib.hid (Below.refl w.heap.size w)
  have HLT := Lib.hid (light_any _ ls w hv)
  have HRL := Lib.hid (rowsOf_length ls)
  clear hv
  go_enter Try.func6, Try.ntmps6
  go_wp2_with fail
  refine HLT.out.mono ?_
  rintro e w' ⟨q, rfl, rfl, hq⟩
  cases q with
  | false =>
    clear hq
    go_wp2_with fail
    refine (awake_any w).mono ?_
    rintro e wz ⟨rfl, hbz⟩
    go_wp2
    go_ret
    exact ⟨rfl, HB0.out.trans (hbz.mono HB0.out.size)⟩
  | true =>
    have hn42 := hq rfl
    have HN42 := Lib.hid hn42
    clear hq
    obtain ⟨n, hn⟩ : ∃ n, n = ls.length := ⟨_, rfl⟩
    rw [← hn] at hn42 HV ⊢
    have HN := Lib.hid hn
    clear hn
    go_wp2_with fail
    go_loopg [5, 6] n (fun g s5 s6 wr => ∃ (k : Nat) (P : Bool), k ≤ n ∧ g = n - k ∧ s5 = .bool P ∧ s6 = .int .i64 k ∧ P = ((rowsOf ls).take k).all aloneB ∧ (∀ (j : Nat) p, j < k → ls[j]? = some p → p.2.length ≤ 300) ∧ ∃ q, wr = w.drewN q)
    case atStart => exact ⟨0, true, Nat.zero_le _, rfl, rfl, rfl, rfl, fun j p hj => absurd hj (Nat.not_lt_zero _), 0, rfl⟩
    case round =>
      obtain ⟨k, P, hk, hg, rfl, rfl, hP, hall, q, hq⟩ := hrel
      have HG := Lib.hid hg
      have HP := Lib.hid hP
      have HALL := Lib.hid hall
      have HQ := Lib.hid hq
      have HW := Lib.hid (show Below w.heap.size w wr by rw [hq]; exact below_drewN (Below.refl _ _) q)
      clear hg hP hall hq
      by_cases hlt : k < n
      · have hltz : (k : Int) < (n : Int) := by omega
        obtain ⟨b, off, rfl⟩ := HV.out.addr (by have := HN.out; omega)
        obtain ⟨B, x, d, xs, hat, hxn, hck0, hi⟩ := HV.out.row_at (k := k) (by have := HN.out; omega)
        have hck := (HW.out.cell (p := ⟨b, off + k, none⟩) (HV.out.blk (by have := HN.out; omega))).trans hck0
        have HAT := Lib.hid (snd_at hat)
        have HLS := Lib.hid hat
        have HX := Lib.hid hxn
        have HRA := Lib.hid (refAlone_any _ xs wr (hi.keep HW.out))
        clear hat hxn hck0 hi
        by_cases hx : x ≤ 300
        · have hxz : ¬ (300 : Int) < (x : Int) := by omega
          have HAL2 := Lib.hid (show ∀ (j : Nat) p, j < k + 1 → ls[j]? = some p → p.2.length ≤ 300 from fun j p hj hp => by
            by_cases e : j = k
            · subst e
              have := HLS.out
              rw [this] at hp
              rw [← Option.some.inj hp]
              have := HX.out
              simp only
              omega
            · exact HALL.out j p (by omega) hp)
          clear hx
          cases P with
          | true =>
            have HPN := Lib.hid (show aloneB xs = ((rowsOf ls).take (k + 1)).all aloneB by rw [all_snoc HAT.out, ← HP.out, Bool.true_and])
            go_wp2_with fail
            refine HRA.out.mono ?_
            rintro e w2 ⟨rfl, q2, hq2⟩
            have HQ2 := Lib.hid (show w2 = w.drewN (q + q2) by rw [hq2, HQ.out, World.drewN_drewN])
            generalize aloneB xs = AX at *
            clear hq2 hck
            go_wp2_with fail
            go_roundg (n - (k + 1))
            case measure => have := HG.out; omega
            case rel => exact ⟨k + 1, AX, by omega, rfl, rfl, by go_num, HPN.out, HAL2.out, _, HQ2.out⟩
          | false =>
            have HPN := Lib.hid (show false = ((rowsOf ls).take (k + 1)).all aloneB by rw [all_snoc HAT.out, ← HP.out, Bool.false_and])
            go_wp2_with fail
            go_roundg (n - (k + 1))
            case measure => have := HG.out; omega
            case rel => exact ⟨k + 1, false, by omega, rfl, rfl, by go_num, HPN.out, HAL2.out, _, HQ.out⟩
        · have hxz : (300 : Int) < (x : Int) := by omega
          clear hx
          go_wp2_with fail
          refine (awake_any wr).mono ?_
          rintro e wz ⟨rfl, hbz⟩
          go_wp2
          go_ret
          exact ⟨rfl, HW.out.trans (hbz.mono HW.out.size)⟩
      · have hltz : ¬ (k : Int) < (n : Int) := by omega
        have H300 := Lib.hid (show ∀ p ∈ ls, p.2.length ≤ 300 from fun p hp => by
          obtain ⟨j, hj, e⟩ := List.getElem_of_mem hp
          exact HALL.out j p (by have := HN.out; omega) (by rw [List.getElem?_eq_getElem hj, e]))
        have HPE := Lib.hid (show (rowsOf ls).all aloneB = P by rw [HP.out, List.take_of_length_le (by have := HRL.out; have := HN.out; omega)])
        have HAL := Lib.hid (fun W (hb : Below w.heap.size w W) => alone_any _ ls W (HV.out.keep hb) (fun p hp => Nat.le_trans (H300.out p hp) (by decide)))
        rw [HPE.out] at HAL
        cases P with
        | true =>
          go_wp2_with fail
          refine (count_any _ ls t wr (HV.out.keep HW.out) HN42.out H300.out).mono ?_
          rintro e w5 ⟨rfl, rfl⟩
          go_wp2_with fail
          refine (refCount_any _ ls t wr (HV.out.keep HW.out) HN42.out H300.out).mono ?_
          rintro e w6 ⟨rfl, rfl⟩
          generalize ((cntR t (rowsOf ls) : Nat) : Int) = C
          have hcc : (C == C) = true := by simp
          go_wp2_with fail
          refine (HAL.out wr HW.out).mono ?_
          rintro e w7 ⟨rfl, hb7⟩
          have HB7 := Lib.hid (HW.out.trans (hb7.mono HW.out.size))
          clear hb7
          go_wp2_with fail
          refine (awake_any w7).mono ?_
          rintro e wz ⟨rfl, hbz⟩
          go_wp2
          go_ret
          exact ⟨rfl, HB7.out.trans (hbz.mono HB7.out.size)⟩
        | false =>
          go_wp2_with fail
          refine (count_any _ ls t wr (HV.out.keep HW.out) HN42.out H300.out).mono ?_
          rintro e w5 ⟨rfl, rfl⟩
          go_wp2_with fail
          refine (refCount_any _ ls t wr (HV.out.keep HW.out) HN42.out H300.out).mono ?_
          rintro e w6 ⟨rfl, rfl⟩
          generalize ((cntR t (rowsOf ls) : Nat) : Int) = C
          have hcc : (C == C) = true := by simp
          go_wp2_with fail
          refine (HAL.out wr HW.out).mono ?_
          rintro e w7 ⟨rfl, hb7⟩
          have HB7 := Lib.hid (HW.out.trans (hb7.mono HW.out.size))
          clear hb7
          go_wp2_with fail
          refine (awake_any w7).mono ?_
          rintro e wz ⟨rfl, hbz⟩
          go_wp2
          go_ret
          exact ⟨rfl, HB7.out.trans (hbz.mono HB7.out.size)⟩
end Go.Proofs.Ytaffcpjhaacadaa
