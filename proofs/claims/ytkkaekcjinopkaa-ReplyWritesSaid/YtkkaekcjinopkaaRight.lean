/-
  The document's Right.
  Conditions: none.
-/
import Derived.Test.YtkkaekcjinopkaaCheck
set_option linter.unusedVariables false
namespace Go.Proofs.Ytkkaekcjinopkaa
open Go.RowKit

theorem rightB_ref (r : Rep) : rightB r = (headB r && (decide (r.ns.length ≤ 20) && (!negB r.ns && (decide (r.e = 0) || (!r.p && (decide (r.m = 0) && (decide (r.ns.length = 0) || (decide (r.e = 3) && decide (r.ns.length ≤ 2))))))))) := by
  unfold rightB
  generalize headB r = H
  generalize negB r.ns = N
  obtain ⟨e, p, m, ns⟩ := r
  simp only
  generalize ns.length = n
  by_cases h0 : e = 0
  · subst h0
    cases H <;> cases N <;> simp [mostN]
  · by_cases h3 : e = 3
    · subst h3
      have e1 : (decide (n ≤ 20) && (decide (n = 0) || decide (n ≤ 2))) = decide (n ≤ 2) := by
        rw [Bool.eq_iff_iff]
        simp only [Bool.and_eq_true, Bool.or_eq_true, decide_eq_true_iff]
        omega
      have e2 : mostN 3 = 2 := rfl
      rw [e2, ← e1]
      generalize decide (n ≤ 2) = q at *
      generalize decide (n = 0) = q2 at *
      generalize decide (n ≤ 20) = q3 at *
      cases H <;> cases N <;> cases p <;> cases q <;> cases q2 <;> cases q3 <;> simp at * <;> (try simp_all)
    · have e1 : (decide (n ≤ 20) && decide (n = 0)) = decide (n = 0) := by
        rw [Bool.eq_iff_iff]
        simp only [Bool.and_eq_true, decide_eq_true_iff]
        omega
      have e2 : mostN e = 0 := by unfold mostN; rw [if_neg h0, if_neg h3]
      have e3 : decide (n ≤ 0) = decide (n = 0) := by
        rw [Bool.eq_iff_iff]
        simp only [decide_eq_true_iff]
        omega
      rw [e2, e3, ← e1, decide_eq_false h0, decide_eq_false h3]
      generalize decide (n = 0) = q2 at *
      generalize decide (n ≤ 20) = q3 at *
      generalize decide (m = 0) = q4 at *
      cases H <;> cases N <;> cases p <;> cases q2 <;> cases q3 <;> simp

set_option maxRecDepth 100000 in
set_option maxHeartbeats 2000000 in
theorem refRight_any (r : Rep) (u : Value) (w : World) (hu : IntsAt w u r.ns) : Calls Try.prog 11 #[.agg (repA r u)] w (RetB (.bool (rightB r)) w) := by
  have hb1 := below_new (W := w) (.cells (repA r u) 25)
  have ha1 := RepAt.new w r u
  obtain ⟨c0, c1, c2, c3⟩ := ha1.cells
  have HB := Lib.hid hb1
  have HU := Lib.hid (hu.keep hb1)
  have HS := Lib.hid (rightB_ref r)
  obtain ⟨A, c, rfl, hl, _⟩ := hu
  clear ha1 hb1
  go_enter Try.func11, Try.ntmps11
  go_upto_region 1 with fail
  generalize w.alloc (.cells (repA r (.slice A r.ns.length c)) 25) = w1 at *
  obtain ⟨A', c', e', _, hat⟩ := HU.out
  injection e' with e1 e2 e3
  subst e1 e3
  have HAT := Lib.hid hat
  have HH := Lib.hid (show headB r = decide ((0 ≤ r.e ∧ r.e ≤ 30) ∧ (0 ≤ r.m ∧ r.m ≤ 255)) from rfl)
  have HNB := Lib.hid (show negB r.ns = r.ns.any fun n => decide (n < 0) from rfl)
  generalize rightB r = R at *
  generalize headB r = H at *
  generalize negB r.ns = N at *
  obtain ⟨e, p, m, ns⟩ := r
  simp only at *
  generalize hnl : ns.length = n at *
  have HNL := Lib.hid hnl
  clear HU hat e2 hnl
  cases H with
  | false =>
    have HR := Lib.hid (show false = R by rw [HS.out]; simp)
    have hh := of_decide_eq_false HH.out.symm
    clear HS HH
    by_cases h1 : e < 0
    · clear hh
      go_wp2_with fail
      go_ret
      exact ⟨ret_bool HR.out, HB.out⟩
    · by_cases h2 : 30 < e
      · clear hh
        go_wp2_with fail
        go_ret
        exact ⟨ret_bool HR.out, HB.out⟩
      · by_cases h3 : m < 0
        · clear hh
          go_wp2_with fail
          go_ret
          exact ⟨ret_bool HR.out, HB.out⟩
        · have h4 : 255 < m := by omega
          clear hh
          go_wp2_with fail
          go_ret
          exact ⟨ret_bool HR.out, HB.out⟩
  | true =>
    have hh := of_decide_eq_true HH.out.symm
    obtain ⟨⟨g1, g2⟩, g3, g4⟩ := hh
    have h1 : ¬ e < 0 := by omega
    have h2 : ¬ 30 < e := by omega
    have h3 : ¬ m < 0 := by omega
    have h4 : ¬ 255 < m := by omega
    clear HH g1 g2 g3 g4
    by_cases h5 : n ≤ 20
    · have h5' : ¬ (20 : Int) < (n : Int) := by omega
      rw [decide_eq_true h5] at HS
      go_wp2_with fail
      go_loopg [3] n (fun g s3 wr => ∃ k : Nat, k ≤ n ∧ g = n - k ∧ s3 = .int .i64 k ∧ (∀ (j : Nat) (x : Int), j < k → ns[j]? = some x → ¬ x < 0) ∧ wr = w1)
      case atStart => exact ⟨0, Nat.zero_le _, rfl, rfl, fun j x hj => absurd hj (Nat.not_lt_zero _), rfl⟩
      case round =>
        obtain ⟨k, hk, hg, rfl, hall, rfl⟩ := hrel
        have HALL := Lib.hid hall
        have HG := Lib.hid hg
        clear hall hg
        by_cases hlt : k < n
        · have hltz : (k : Int) < (n : Int) := by omega
          obtain ⟨b, off, rfl, hbl, hcell⟩ := HAT.out (by omega)
          obtain ⟨y, hy⟩ := exI_at (xs := ns) (k := k) (by have := HNL.out; omega)
          have hck := hcell k y hy
          have HY := Lib.hid hy
          clear hcell hy
          by_cases hq : y < 0
          · have HR := Lib.hid (show false = R by
              have : N = true := by
                rw [HNB.out]
                exact List.any_eq_true.2 ⟨y, List.mem_of_getElem? HY.out, by simpa using hq⟩
              rw [HS.out, this]; simp)
            clear HS
            go_wp2_with fail
            go_ret
            exact ⟨ret_bool HR.out, HB.out⟩
          · have HQ := Lib.hid hq
            go_wp2_with fail
            go_roundg (n - (k + 1))
            case measure => have := HG.out; omega
            case rel =>
              refine ⟨k + 1, by omega, rfl, by go_num, fun j t hj ht => ?_, rfl⟩
              by_cases e : j = k
              · subst e
                have := HY.out
                rw [this] at ht
                rw [← Option.some.inj ht]
                exact HQ.out
              · exact HALL.out j t (by omega) ht
        · have hltz : ¬ (k : Int) < (n : Int) := by omega
          have hN : N = false := by
            rw [HNB.out, List.any_eq_false]
            intro x hx
            obtain ⟨j, hj, e⟩ := List.getElem_of_mem hx
            have := HALL.out j x (by have := HNL.out; omega) (by rw [List.getElem?_eq_getElem hj, e])
            simpa using this
          rw [hN] at HS
          clear hN
          by_cases h6 : e = 0
          · subst h6
            have HR := Lib.hid (show true = R by rw [HS.out]; simp)
            clear HS
            go_wp2_with fail
            go_ret
            exact ⟨ret_bool HR.out, HB.out⟩
          · have h6' : (e == 0) = false := by simpa using h6
            rw [decide_eq_false h6] at HS
            clear h6
            cases p with
            | true =>
              have HR := Lib.hid (show false = R by rw [HS.out]; simp)
              clear HS
              go_wp2_with fail
              go_ret
              exact ⟨ret_bool HR.out, HB.out⟩
            | false =>
              by_cases h7 : m = 0
              · subst h7
                by_cases h8 : n = 0
                · subst h8
                  have HR := Lib.hid (show true = R by rw [HS.out]; simp)
                  clear HS
                  go_wp2_with fail
                  go_ret
                  exact ⟨ret_bool HR.out, HB.out⟩
                · have h8' : ((n : Int) == 0) = false := by simp; omega
                  rw [decide_eq_false h8] at HS
                  by_cases h9 : e = 3
                  · subst h9
                    by_cases h10 : n ≤ 2
                    · have h10' : (n : Int) ≤ 2 := by omega
                      have HR := Lib.hid (show true = R by rw [HS.out, decide_eq_true h10]; simp)
                      clear HS h8
                      go_wp2_with fail
                      go_ret
                      exact ⟨ret_bool HR.out, HB.out⟩
                    · have h10' : ¬ (n : Int) ≤ 2 := by omega
                      have HR := Lib.hid (show false = R by rw [HS.out, decide_eq_false h10]; simp)
                      clear HS h8
                      go_wp2_with fail
                      go_ret
                      exact ⟨ret_bool HR.out, HB.out⟩
                  · have h9' : (e == 3) = false := by simpa using h9
                    have HR := Lib.hid (show false = R by rw [HS.out, decide_eq_false h9]; simp)
                    clear HS h8 h9
                    go_wp2_with fail
                    go_ret
                    exact ⟨ret_bool HR.out, HB.out⟩
              · have h7' : (m == 0) = false := by simpa using h7
                have HR := Lib.hid (show false = R by rw [HS.out, decide_eq_false h7]; simp)
                clear HS h7
                go_wp2_with fail
                go_ret
                exact ⟨ret_bool HR.out, HB.out⟩
    · have h5' : (20 : Int) < (n : Int) := by omega
      have HR := Lib.hid (show false = R by rw [HS.out, decide_eq_false h5]; simp)
      clear HS h5
      go_wp2_with fail
      go_ret
      exact ⟨ret_bool HR.out, HB.out⟩
end Go.Proofs.Ytkkaekcjinopkaa
