/-
  How often a number stands in rows: the program's Count and the document's.
  Conditions: no more than 4200 rows of no more than 300 numbers.
-/
import Derived.Test.YtaffcpjhaacadaaLists
set_option linter.unusedVariables false
namespace Go.Proofs.Ytaffcpjhaacadaa
open Go.RowKit

/-- How often a number stands in rows. -/
def cntR (t : Int) (R : List (List Int)) : Nat := R.flatten.count t
theorem cntR_snoc {t : Int} {R : List (List Int)} {k : Nat} {xs : List Int} (h : R[k]? = some xs) : cntR t (R.take (k + 1)) = cntR t (R.take k) + xs.count t := by
  unfold cntR
  rw [List.take_add_one, h, List.flatten_append, List.count_append]
  simp
theorem count_snoc {t y : Int} {xs : List Int} {j : Nat} (h : xs[j]? = some y) : (xs.take (j + 1)).count t = (xs.take j).count t + if y = t then 1 else 0 := by
  rw [List.take_add_one, h, List.count_append]
  simp [List.count_singleton]

set_option maxRecDepth 100000 in
set_option maxHeartbeats 2000000 in
theorem count_any (v : Value) (ls : List (Value × List Int)) (t : Int) (w : World) (hv : RowsAt w v ls) (hl : ls.length ≤ 4200) (h3 : ∀ p ∈ ls, p.2.length ≤ 300) :
    Calls Try.prog 17 #[v, .int .i64 t] w (Ret (.int .i64 ((cntR t (rowsOf ls) : Nat) : Int)) w) := by
  have HV := Lib.hid hv
  have H3 := Lib.hid h3
  obtain ⟨A, c, rfl, _⟩ := hv.form
  have HRL := Lib.hid (rowsOf_length ls)
  obtain ⟨R, hR⟩ : ∃ R, R = rowsOf ls := ⟨_, rfl⟩
  have HR := Lib.hid hR
  rw [← hR] at HRL ⊢
  generalize hn : ls.length = n at *
  have HN := Lib.hid hn
  clear hv hn hR h3
  go_enter Try.func17, Try.ntmps17
  go_wp2_with fail
  go_loopg [5, 12] n (fun g s5 s12 wr => ∃ k C : Nat, k ≤ n ∧ g = n - k ∧ s5 = .int .i64 C ∧ s12 = .int .i64 k ∧ C = cntR t (R.take k) ∧ C ≤ k * 300 ∧ wr = w)
  case atStart => exact ⟨0, 0, Nat.zero_le _, rfl, rfl, rfl, rfl, Nat.zero_le _, rfl⟩
  case round =>
    obtain ⟨k, C, hk, hg, rfl, rfl, hC, hCb, rfl⟩ := hrel
    have HG := Lib.hid hg
    have HC := Lib.hid hC
    clear hg hC
    by_cases hlt : k < n
    · have hltz : (k : Int) < (n : Int) := by omega
      obtain ⟨b, off, rfl⟩ := HV.out.addr (by have := HN.out; omega)
      obtain ⟨B, x, d, xs, hat, hxn, hck, hi⟩ := HV.out.row_at (k := k) (by have := HN.out; omega)
      have HAT := Lib.hid (show R[k]? = some xs by rw [HR.out]; exact snd_at hat)
      have hx3 : x ≤ 300 := by have := H3.out _ (List.mem_of_getElem? hat); simp only at this; omega
      have HX := Lib.hid hxn
      have HI := Lib.hid hi
      clear hat hxn hi
      go_wp2_with fail
      go_loopg [5, 18] x (fun g2 s5 s18 wr2 => ∃ j D : Nat, j ≤ x ∧ g2 = x - j ∧ s5 = .int .i64 D ∧ s18 = .int .i64 j ∧ D = C + (xs.take j).count t ∧ D ≤ k * 300 + j ∧ wr2 = wr)
      case atStart => exact ⟨0, C, Nat.zero_le _, rfl, rfl, rfl, by simp, by omega, rfl⟩
      case round =>
        obtain ⟨j, D, hj, hg2, rfl, rfl, hD, hDb, rfl⟩ := hrel
        have HG2 := Lib.hid hg2
        have HD := Lib.hid hD
        clear hg2 hD
        by_cases hlt2 : j < x
        · have hlt2z : (j : Int) < (x : Int) := by omega
          obtain ⟨A2, c2, e2, _, hat2⟩ := HI.out
          injection e2 with e21 e22 e23
          obtain ⟨y, hy⟩ := exI_at (xs := xs) (k := j) (by have := HX.out; omega)
          obtain ⟨b2, off2, hA2, hbl2, hcell2⟩ := hat2 (by have := HX.out; omega)
          rw [hA2] at e21
          subst e21
          have hcj := hcell2 j _ hy
          have HS := Lib.hid (count_snoc (t := t) hy)
          clear hat2 hcell2 hy e22 e23 hA2 hbl2
          by_cases hyt : y = t
          · have hy1 : (y == t) = true := by simpa using hyt
            have HS2 := Lib.hid (show (xs.take (j + 1)).count t = (xs.take j).count t + 1 by rw [HS.out, if_pos hyt])
            clear hyt HS
            go_wp2_with fail
            go_roundg (x - (j + 1))
            case measure => have := HG2.out; omega
            case rel => exact ⟨j + 1, D + 1, by omega, rfl, by go_num, by go_num, by rw [HS2.out, HD.out]; omega, by omega, rfl⟩
          · have hy1 : (y == t) = false := by simpa using hyt
            have HS2 := Lib.hid (show (xs.take (j + 1)).count t = (xs.take j).count t by rw [HS.out, if_neg hyt]; rfl)
            clear hyt HS
            go_wp2_with fail
            go_roundg (x - (j + 1))
            case measure => have := HG2.out; omega
            case rel => exact ⟨j + 1, D, by omega, rfl, rfl, by go_num, by rw [HS2.out, HD.out], by omega, rfl⟩
        · have hlt2z : ¬ (j : Int) < (x : Int) := by omega
          have HD2 := Lib.hid (show D = cntR t (R.take (k + 1)) by
            rw [HD.out, HC.out, cntR_snoc HAT.out, show xs.take j = xs from List.take_of_length_le (by have := HX.out; omega)])
          go_wp2_with fail
          go_roundg (n - (k + 1))
          case measure => have := HG.out; omega
          case rel => exact ⟨k + 1, D, by omega, rfl, rfl, by go_num, HD2.out, by omega, rfl⟩
    · have hltz : ¬ (k : Int) < (n : Int) := by omega
      have HE := Lib.hid (show (C : Int) = ((cntR t R : Nat) : Int) by rw [HC.out, List.take_of_length_le (by have := HRL.out; omega)])
      go_wp2_with fail
      go_ret
      exact ⟨ret_int HE.out, rfl⟩

set_option maxRecDepth 100000 in
set_option maxHeartbeats 2000000 in
theorem refCount_any (v : Value) (ls : List (Value × List Int)) (t : Int) (w : World) (hv : RowsAt w v ls) (hl : ls.length ≤ 4200) (h3 : ∀ p ∈ ls, p.2.length ≤ 300) :
    Calls Try.prog 18 #[v, .int .i64 t] w (Ret (.int .i64 ((cntR t (rowsOf ls) : Nat) : Int)) w) := by
  have HV := Lib.hid hv
  have H3 := Lib.hid h3
  obtain ⟨A, c, rfl, _⟩ := hv.form
  have HRL := Lib.hid (rowsOf_length ls)
  obtain ⟨R, hR⟩ : ∃ R, R = rowsOf ls := ⟨_, rfl⟩
  have HR := Lib.hid hR
  rw [← hR] at HRL ⊢
  generalize hn : ls.length = n at *
  have HN := Lib.hid hn
  clear hv hn hR h3
  go_enter Try.func18, Try.ntmps18
  go_wp2_with fail
  go_loopg [5, 6] n (fun g s5 s6 wr => ∃ k C : Nat, k ≤ n ∧ g = n - k ∧ s5 = .int .i64 C ∧ s6 = .int .i64 k ∧ C = cntR t (R.take k) ∧ C ≤ k * 300 ∧ wr = w)
  case atStart => exact ⟨0, 0, Nat.zero_le _, rfl, rfl, rfl, rfl, Nat.zero_le _, rfl⟩
  case round =>
    obtain ⟨k, C, hk, hg, rfl, rfl, hC, hCb, rfl⟩ := hrel
    have HG := Lib.hid hg
    have HC := Lib.hid hC
    clear hg hC
    by_cases hlt : k < n
    · have hltz : (k : Int) < (n : Int) := by omega
      obtain ⟨b, off, rfl⟩ := HV.out.addr (by have := HN.out; omega)
      obtain ⟨B, x, d, xs, hat, hxn, hck, hi⟩ := HV.out.row_at (k := k) (by have := HN.out; omega)
      have HAT := Lib.hid (show R[k]? = some xs by rw [HR.out]; exact snd_at hat)
      have hx3 : x ≤ 300 := by have := H3.out _ (List.mem_of_getElem? hat); simp only at this; omega
      have HX := Lib.hid hxn
      have HI := Lib.hid hi
      clear hat hxn hi
      go_wp2_with fail
      go_loopg [5, 7] x (fun g2 s5 s7 wr2 => ∃ j D : Nat, j ≤ x ∧ g2 = x - j ∧ s5 = .int .i64 D ∧ s7 = .int .i64 j ∧ D = C + (xs.take j).count t ∧ D ≤ k * 300 + j ∧ wr2 = wr)
      case atStart => exact ⟨0, C, Nat.zero_le _, rfl, rfl, rfl, by simp, by omega, rfl⟩
      case round =>
        obtain ⟨j, D, hj, hg2, rfl, rfl, hD, hDb, rfl⟩ := hrel
        have HG2 := Lib.hid hg2
        have HD := Lib.hid hD
        clear hg2 hD
        by_cases hlt2 : j < x
        · have hlt2z : (j : Int) < (x : Int) := by omega
          obtain ⟨A2, c2, e2, _, hat2⟩ := HI.out
          injection e2 with e21 e22 e23
          obtain ⟨y, hy⟩ := exI_at (xs := xs) (k := j) (by have := HX.out; omega)
          obtain ⟨b2, off2, hA2, hbl2, hcell2⟩ := hat2 (by have := HX.out; omega)
          rw [hA2] at e21
          subst e21
          have hcj := hcell2 j _ hy
          have HS := Lib.hid (count_snoc (t := t) hy)
          clear hat2 hcell2 hy e22 e23 hA2 hbl2
          by_cases hyt : y = t
          · have hy1 : (y == t) = true := by simpa using hyt
            have HS2 := Lib.hid (show (xs.take (j + 1)).count t = (xs.take j).count t + 1 by rw [HS.out, if_pos hyt])
            clear hyt HS
            go_wp2_with fail
            go_roundg (x - (j + 1))
            case measure => have := HG2.out; omega
            case rel => exact ⟨j + 1, D + 1, by omega, rfl, by go_num, by go_num, by rw [HS2.out, HD.out]; omega, by omega, rfl⟩
          · have hy1 : (y == t) = false := by simpa using hyt
            have HS2 := Lib.hid (show (xs.take (j + 1)).count t = (xs.take j).count t by rw [HS.out, if_neg hyt]; rfl)
            clear hyt HS
            go_wp2_with fail
            go_roundg (x - (j + 1))
            case measure => have := HG2.out; omega
            case rel => exact ⟨j + 1, D, by omega, rfl, rfl, by go_num, by rw [HS2.out, HD.out], by omega, rfl⟩
        · have hlt2z : ¬ (j : Int) < (x : Int) := by omega
          have HD2 := Lib.hid (show D = cntR t (R.take (k + 1)) by
            rw [HD.out, HC.out, cntR_snoc HAT.out, show xs.take j = xs from List.take_of_length_le (by have := HX.out; omega)])
          go_wp2_with fail
          go_roundg (n - (k + 1))
          case measure => have := HG.out; omega
          case rel => exact ⟨k + 1, D, by omega, rfl, rfl, by go_num, HD2.out, by omega, rfl⟩
    · have hltz : ¬ (k : Int) < (n : Int) := by omega
      have HE := Lib.hid (show (C : Int) = ((cntR t R : Nat) : Int) by rw [HC.out, List.take_of_length_le (by have := HRL.out; omega)])
      go_wp2_with fail
      go_ret
      exact ⟨ret_int HE.out, rfl⟩
end Go.Proofs.Ytaffcpjhaacadaa
