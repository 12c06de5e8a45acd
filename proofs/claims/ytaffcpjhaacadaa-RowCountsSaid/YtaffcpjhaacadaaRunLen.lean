/-
  The program's runLength.
  Conditions: there is a row.
-/
import Derived.Test.YtaffcpjhaacadaaLists
import Derived.Test.YtaffcpjhaacadaaEqual
import Derived.Test.YtaffcpjhaacadaaRowMath
set_option linter.unusedVariables false
namespace Go.Proofs.Ytaffcpjhaacadaa
open Go.RowKit

theorem head_at {r : List Int} {l : List (List Int)} {j : Nat} (h : (r :: l)[j + 1]? = some r) : l[j]? = some r := by simpa using h

set_option maxRecDepth 100000 in
set_option maxHeartbeats 2000000 in
theorem runLength_any (v : Value) (ls : List (Value × List Int)) (r : List Int) (l : List (List Int)) (w : World) (hv : RowsAt w v ls) (hR : rowsOf ls = r :: l) :
    Calls Try.prog 20 #[v] w (RetD (.int .i64 ((runL r l + 1 : Nat) : Int)) w) := by
  have hlen : ls.length = l.length + 1 := by rw [← rowsOf_length, hR]; rfl
  obtain ⟨A, c, rfl, hlc⟩ := hv.form
  obtain ⟨b, off, rfl⟩ := hv.addr (by omega)
  have HV := Lib.hid hv
  obtain ⟨B0, n0, d0, xs0, hat0, hxn0, hck0, hi0⟩ := hv.row_at (k := 0) (by omega)
  have e0 : xs0 = r := by
    have h := snd_at hat0
    rw [hR] at h
    simpa using h.symm
  subst e0
  rw [Nat.add_zero] at hck0
  have HI0 := Lib.hid hi0
  have HR := Lib.hid hR
  have HLEN := Lib.hid hlen
  have hnb := hv.bound
  obtain ⟨K, hK⟩ : ∃ K, K = runL xs0 l + 1 := ⟨_, rfl⟩
  rw [← hK]
  have HK := Lib.hid hK
  generalize hn : ls.length = n at *
  have HN := Lib.hid hn
  clear hv hlc hat0 hi0 hR hlen hn hK
  have hn0 : 0 < n := by have := HLEN.out; omega
  have hn0z : (0 : Int) < (n : Int) := by omega
  go_enter Try.func20, Try.ntmps20
  go_wp2_with fail
  go_loopg [3, 4, 7] n (fun g _ _ s7 wr => ∃ k : Nat, k ≤ n ∧ g = n - k ∧ s7 = .int .i64 k ∧ (∀ j, j < k → (xs0 :: l)[j]? = some xs0) ∧ ∃ q, wr = w.drewN q)
  case atStart => exact ⟨0, Nat.zero_le _, rfl, rfl, fun j hj => absurd hj (Nat.not_lt_zero _), 0, rfl⟩
  case round =>
    obtain ⟨k, hk, hg, rfl, hall, q, rfl⟩ := hrel
    have HG := Lib.hid hg
    have HALL := Lib.hid hall
    clear hg hall
    by_cases hlt : k < n
    · have hltz : (k : Int) < (n : Int) := by omega
      obtain ⟨B, m, d, xs, hat, hxn, hck, hi⟩ := HV.out.row_at (k := k) (by have := HN.out; omega)
      have HAT := Lib.hid (show (xs0 :: l)[k]? = some xs by rw [← HR.out]; exact snd_at hat)
      have hck' : (w.drewN q).cell? ⟨b, off + k, none⟩ = some (.slice B m d) := hck
      have hck0' : (w.drewN q).cell? ⟨b, off, none⟩ = some (.slice B0 n0 d0) := hck0
      have HE := Lib.hid (fun W (h : Below w.heap.size w W) => equal_any xs xs0 _ _ W (hi.keep h) (HI0.out.keep h))
      have HBQ := Lib.hid (show Below w.heap.size w (w.drewN q) from below_drewN (Below.refl _ _) q)
      clear hat hxn hck hi
      by_cases he : xs = xs0
      · have HEQ := Lib.hid he
        have hd : decide (xs = xs0) = true := decide_eq_true he
        rw [hd] at HE
        clear he hd
        go_wp2_with (go_at_call 34; refine (HE.out _ HBQ.out).mono ?_; rintro e w2 ⟨rfl, q2, rfl⟩)
        go_roundg (n - (k + 1))
        case measure => have := HG.out; omega
        case rel =>
          refine ⟨k + 1, by omega, rfl, by go_num, fun j hj => ?_, _, rfl⟩
          by_cases e : j = k
          · subst e; rw [HAT.out, HEQ.out]
          · exact HALL.out j (by omega)
      · have hd : decide (xs = xs0) = false := decide_eq_false he
        rw [hd] at HE
        have HRES := Lib.hid (show K = k by
          rw [HK.out]
          have hk0 : k ≠ 0 := by
            rintro rfl
            have := HAT.out
            simp at this
            exact he this.symm
          obtain ⟨k', rfl⟩ : ∃ k', k = k' + 1 := ⟨k - 1, by omega⟩
          rw [runL_is (k := k') (fun j hj => head_at (HALL.out (j + 1) (by omega))) (fun h => ?_)]
          have := HAT.out
          rw [List.getElem?_cons_succ, h] at this
          exact he (Option.some.inj this).symm)
        clear he hd
        go_wp2_with (go_at_call 34; refine (HE.out _ HBQ.out).mono ?_; rintro e w2 ⟨rfl, q2, rfl⟩)
        go_ret
        exact ⟨by rw [HRES.out]; rfl, _, rfl⟩
    · have hltz : ¬ (k : Int) < (n : Int) := by omega
      have HRES := Lib.hid (show K = n by
        rw [HK.out]
        have hkn : k = l.length + 1 := by have := HLEN.out; omega
        rw [runL_is (k := l.length) (fun j hj => head_at (HALL.out (j + 1) (by omega))) (by simp), HLEN.out])
      go_wp2_with fail
      go_ret
      exact ⟨by rw [HRES.out]; rfl, q, rfl⟩
end Go.Proofs.Ytaffcpjhaacadaa
