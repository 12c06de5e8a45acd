/-
  The document's Right.
  Conditions: none.
-/
import Derived.Test.YtaffcpjhaacadaaCheck
set_option linter.unusedVariables false
namespace Go.Proofs.Ytaffcpjhaacadaa
open Go.RowKit

theorem bad_at {m : Int} {xs : List Int} {k : Nat} {y : Int} (hy : xs[k]? = some y) (hb : y < 0 ∨ 200 < y) : okRow m xs = false := by
  unfold okRow
  have : xs.any badN = true := List.any_eq_true.2 ⟨y, List.mem_of_getElem? hy, by unfold badN; exact decide_eq_true hb⟩
  rw [this]
  simp
theorem ok_at {m : Int} {xs : List Int} (h : (xs.length : Int) = m) (hall : ∀ (j : Nat) (y : Int), xs[j]? = some y → ¬ (y < 0 ∨ 200 < y)) : okRow m xs = true := by
  rw [okRow_iff]
  refine ⟨h, fun n hn => ?_⟩
  obtain ⟨j, hj, e⟩ := List.getElem_of_mem hn
  have := hall j n (by rw [List.getElem?_eq_getElem hj, e])
  omega

set_option maxRecDepth 100000 in
set_option maxHeartbeats 2000000 in
theorem refRight_any (m : Int) (v : Value) (ls : List (Value × List Int)) (w : World) (hv : RowsAt w v ls) : Calls Try.prog 11 #[.int .i64 m, v] w (Ret (.bool (rightW m (rowsOf ls))) w) := by
  have HV := Lib.hid hv
  have hnb := hv.bound
  obtain ⟨A, c, rfl, hlc⟩ := hv.form
  have HD := Lib.hid (show rightW m (rowsOf ls) = (decide ((1 ≤ m ∧ m ≤ 16) ∧ (rowsOf ls).length ≤ 4096) && (rowsOf ls).all (okRow m)) from rfl)
  have HNT := Lib.hid (fun (k : Nat) (r : List Int) (h : (rowsOf ls)[k]? = some r) (hr : okRow m r = false) => okRow_not h hr)
  rw [rowsOf_length] at HD
  generalize rightW m (rowsOf ls) = R at *
  generalize hn : ls.length = n at *
  have HN := Lib.hid hn
  clear hv hlc hn
  by_cases h1 : m < 1
  · have HR := Lib.hid (show false = R by rw [HD.out, decide_eq_false (by omega)]; rfl)
    go_enter Try.func11, Try.ntmps11
    go_wp2_with fail
    go_ret
    exact ⟨ret_bool HR.out, rfl⟩
  · by_cases h2 : 16 < m
    · have HR := Lib.hid (show false = R by rw [HD.out, decide_eq_false (by omega)]; rfl)
      go_enter Try.func11, Try.ntmps11
      go_wp2_with fail
      go_ret
      exact ⟨ret_bool HR.out, rfl⟩
    · by_cases h3 : 4096 < n
      · have h3z : (4096 : Int) < (n : Int) := by omega
        have HR := Lib.hid (show false = R by rw [HD.out, decide_eq_false (by omega)]; rfl)
        go_enter Try.func11, Try.ntmps11
        go_wp2_with fail
        go_ret
        exact ⟨ret_bool HR.out, rfl⟩
      · have h3z : ¬ (4096 : Int) < (n : Int) := by omega
        have HR0 := Lib.hid (show R = (rowsOf ls).all (okRow m) by rw [HD.out, decide_eq_true (by omega), Bool.true_and])
        obtain ⟨M, rfl⟩ : ∃ M : Nat, m = (M : Int) := ⟨m.toNat, by omega⟩
        have hM16 : M ≤ 16 := by omega
        clear HD
        go_enter Try.func11, Try.ntmps11
        go_wp2_with fail
        go_loopg [5] n (fun g s5 wr => ∃ k : Nat, k ≤ n ∧ g = n - k ∧ s5 = .int .i64 k ∧ (∀ (j : Nat) r, j < k → (rowsOf ls)[j]? = some r → okRow M r = true) ∧ wr = w)
        case atStart => exact ⟨0, Nat.zero_le _, rfl, rfl, fun j r hj => absurd hj (Nat.not_lt_zero _), rfl⟩
        case round =>
          obtain ⟨k, hk, hg, rfl, hall, rfl⟩ := hrel
          have HG := Lib.hid hg
          have HALL := Lib.hid hall
          clear hg hall
          by_cases hlt : k < n
          · have hltz : (k : Int) < (n : Int) := by omega
            obtain ⟨b, off, rfl⟩ := HV.out.addr (by have := HN.out; omega)
            obtain ⟨B, x, d, xs, hat, hxn, hck, hi⟩ := HV.out.row_at (k := k) (by have := HN.out; omega)
            have HAT := Lib.hid (snd_at hat)
            have HX := Lib.hid hxn
            have HI := Lib.hid hi
            clear hat hxn hi
            by_cases hm : (x : Int) = (M : Int)
            · have hxM : x = M := by omega
              subst hxM
              have hm1 : ((x : Int) == (x : Int)) = true := by simp
              have hm2 : ((x : Int) != (x : Int)) = false := by simp
              go_wp2_with fail
              go_loopg [6] x (fun g2 s6 wr2 => ∃ j : Nat, j ≤ x ∧ g2 = x - j ∧ s6 = .int .i64 j ∧ (∀ (i : Nat) (y : Int), i < j → xs[i]? = some y → ¬ (y < 0 ∨ 200 < y)) ∧ wr2 = wr)
              case atStart => exact ⟨0, Nat.zero_le _, rfl, rfl, fun i y hi => absurd hi (Nat.not_lt_zero _), rfl⟩
              case round =>
                obtain ⟨j, hj, hg2, rfl, hall2, rfl⟩ := hrel
                have HG2 := Lib.hid hg2
                have HALL2 := Lib.hid hall2
                clear hg2 hall2
                by_cases hlt2 : j < x
                · have hltz2 : (j : Int) < (x : Int) := by omega
                  obtain ⟨A2, c2, e2, hl2, hat2⟩ := HI.out
                  injection e2 with e21 e22 e23
                  obtain ⟨y, hy⟩ := exI_at (xs := xs) (k := j) (by have := HX.out; omega)
                  obtain ⟨b2, off2, hA2, hbl2, hcell2⟩ := hat2 (by have := HX.out; omega)
                  rw [hA2] at e21
                  subst e21
                  have hcj := hcell2 j _ hy
                  have HY := Lib.hid hy
                  clear hcell2 hy hat2 hl2 e22 e23 hA2 hbl2
                  by_cases hq : y < 0
                  · have HR := Lib.hid (show false = R from (HNT.out k xs HAT.out (bad_at HY.out (.inl hq))).symm)
                    go_wp2_with fail
                    go_ret
                    exact ⟨ret_bool HR.out, rfl⟩
                  · by_cases hq2 : 200 < y
                    · have HR := Lib.hid (show false = R from (HNT.out k xs HAT.out (bad_at HY.out (.inr hq2))).symm)
                      go_wp2_with fail
                      go_ret
                      exact ⟨ret_bool HR.out, rfl⟩
                    · have HQ := Lib.hid (show ¬ (y < 0 ∨ 200 < y) by omega)
                      go_wp2_with fail
                      go_roundg (x - (j + 1))
                      case measure => have := HG2.out; omega
                      case rel =>
                        refine ⟨j + 1, by omega, rfl, by go_num, fun i t hi ht => ?_, rfl⟩
                        by_cases e : i = j
                        · subst e
                          have := HY.out
                          rw [this] at ht
                          rw [← Option.some.inj ht]
                          exact HQ.out
                        · exact HALL2.out i t (by omega) ht
                · have hltz2 : ¬ (j : Int) < (x : Int) := by omega
                  have HOKK := Lib.hid (show okRow (x : Int) xs = true from ok_at (by rw [HX.out]) (fun i y hy => HALL2.out i y (by
                    have := (List.getElem?_eq_some_iff.1 hy).1
                    have := HX.out
                    omega) hy))
                  go_wp2_with fail
                  go_roundg (n - (k + 1))
                  case measure => have := HG.out; omega
                  case rel =>
                    refine ⟨k + 1, by omega, rfl, by go_num, fun j r hj hr => ?_, rfl⟩
                    by_cases e : j = k
                    · subst e
                      have := HAT.out
                      rw [this] at hr
                      rw [← Option.some.inj hr]
                      exact HOKK.out
                    · exact HALL.out j r (by omega) hr
            · have hm1 : ((x : Int) == (M : Int)) = false := by simpa using hm
              have hm2 : ((x : Int) != (M : Int)) = true := by simpa using hm
              have HR := Lib.hid (show false = R from (HNT.out k xs HAT.out (by unfold okRow; rw [HX.out, decide_eq_false hm]; rfl)).symm)
              clear hm
              go_wp2_with fail
              go_ret
              exact ⟨ret_bool HR.out, rfl⟩
          · have hltz : ¬ (k : Int) < (n : Int) := by omega
            have HR := Lib.hid (show true = R by
              rw [HR0.out]
              exact (okRow_at (fun j r hr => HALL.out j r (by
                have := (List.getElem?_eq_some_iff.1 hr).1
                rw [rowsOf_length] at this
                have := HN.out
                omega) hr)).symm)
            go_wp2_with fail
            go_ret
            exact ⟨ret_bool HR.out, rfl⟩
end Go.Proofs.Ytaffcpjhaacadaa
