/-
  The program's Alone of rows.
  Conditions: rows of no more than 1000 numbers.
-/
import Derived.Test.YtaffcpjhaacadaaTwice
import Derived.Test.YtaffcpjhaacadaaLists
set_option linter.unusedVariables false
namespace Go.Proofs.Ytaffcpjhaacadaa
open Go.RowKit

theorem Try.entersTwice : ∀ args w, (callFunc 33 args).run Try.prog w = .ok (.enter 33 args) w := by
  exact enters_of Try.func33 (by kernel_rfl) rfl
theorem all_at {R : List (List Int)} (h : ∀ (k : Nat) r, R[k]? = some r → aloneB r = true) : R.all aloneB = true := by
  rw [List.all_eq_true]
  intro r hr
  obtain ⟨k, hk, e⟩ := List.getElem_of_mem hr
  exact h k r (by rw [List.getElem?_eq_getElem hk, e])
theorem all_not {R : List (List Int)} {k : Nat} {r : List Int} (h : R[k]? = some r) (hr : aloneB r = false) : R.all aloneB = false := by
  rw [List.all_eq_false]
  exact ⟨r, List.mem_of_getElem? h, by rw [hr]; simp⟩

set_option maxRecDepth 100000 in
set_option maxHeartbeats 2000000 in
theorem indexTwice_any (v : Value) (ls : List (Value × List Int)) (w : World) (hv : RowsAt w v ls) (h3 : ∀ p ∈ ls, p.2.length ≤ 1000) :
    Calls Try.prog 47 #[v, .func (.func 33) #[] #[]] w (fun e w' => ∃ r : Int, e = .returned (.int .i64 r) ∧ (decide (0 ≤ r) = !(rowsOf ls).all aloneB) ∧ Below w.heap.size w w') := by
  have HV := Lib.hid hv
  have H3 := Lib.hid h3
  have hnb := hv.bound
  obtain ⟨A, c, rfl, _⟩ := hv.form
  have HRL := Lib.hid (rowsOf_length ls)
  obtain ⟨Z, hZ⟩ : ∃ Z : Bool, Z = !(rowsOf ls).all aloneB := ⟨_, rfl⟩
  rw [← hZ]
  have HZ := Lib.hid hZ
  clear hZ
  have eg := Try.entersTwice
  generalize hn : ls.length = n at *
  have HN := Lib.hid hn
  clear hv hn h3
  go_enter Try.func47, Try.ntmps47
  go_wp2_with fail
  go_loopg [5, 8] n (fun gg _ s8 wr => ∃ k : Nat, k ≤ n ∧ gg = n - k ∧ s8 = .int .i64 k ∧ (∀ (j : Nat) r, j < k → (rowsOf ls)[j]? = some r → aloneB r = true) ∧ Below w.heap.size w wr)
  case atStart => exact ⟨0, Nat.zero_le _, by omega, rfl, fun j t hj => absurd hj (Nat.not_lt_zero _), Below.refl _ _⟩
  case round =>
    obtain ⟨k, hk, hg, rfl, hall, hb⟩ := hrel
    have HALL := Lib.hid hall
    have HG := Lib.hid hg
    have HB := Lib.hid hb
    clear hall hg hb
    by_cases hlt : k < n
    · have hltz : (k : Int) < (n : Int) := by omega
      obtain ⟨b, off, rfl⟩ := HV.out.addr (by have := HN.out; omega)
      obtain ⟨B, x, d, xs, hat, hxn, hck0, hi⟩ := HV.out.row_at (k := k) (by have := HN.out; omega)
      have hck := (HB.out.cell (p := ⟨b, off + k, none⟩) (HV.out.blk (by have := HN.out; omega))).trans hck0
      have HAT := Lib.hid (snd_at hat)
      have hcall := hasTwice_any _ xs wr (hi.keep HB.out) (by have := H3.out _ (List.mem_of_getElem? hat); exact this)
      clear hat hxn hi hck0
      cases hq : aloneB xs with
      | false =>
        rw [hq] at hcall
        have HC := Lib.hid hcall
        have HQ := Lib.hid (show Z = true by rw [HZ.out, all_not HAT.out hq]; rfl)
        clear hcall hq
        go_wp2_with (go_at_fn 33; refine HC.out.mono ?_; rintro e w' ⟨rfl, hb'⟩)
        go_ret
        exact ⟨k, rfl, by rw [HQ.out]; simp, HB.out.trans (hb'.mono HB.out.size)⟩
      | true =>
        rw [hq] at hcall
        have HC := Lib.hid hcall
        have HQ := Lib.hid hq
        clear hcall hq
        go_wp2_with (go_at_fn 33; refine HC.out.mono ?_; rintro e w' ⟨rfl, hb'⟩)
        go_roundg (n - (k + 1))
        case measure => have := HG.out; omega
        case rel =>
          refine ⟨k + 1, by omega, rfl, by go_num, fun j t hj ht => ?_, HB.out.trans (hb'.mono HB.out.size)⟩
          by_cases e : j = k
          · subst e
            have := HAT.out
            rw [this] at ht
            rw [← Option.some.inj ht]
            exact HQ.out
          · exact HALL.out j t (by omega) ht
    · have hltz : ¬ (k : Int) < (n : Int) := by omega
      have HQ := Lib.hid (show Z = false by
        rw [HZ.out, all_at (fun j r hr => HALL.out j r (by have := (List.getElem?_eq_some_iff.1 hr).1; have := HRL.out; omega) hr)]
        rfl)
      go_wp2_with fail
      go_ret
      exact ⟨-1, rfl, by rw [HQ.out]; rfl, HB.out⟩

set_option maxRecDepth 100000 in
theorem containsTwice_any (v : Value) (ls : List (Value × List Int)) (w : World) (hv : RowsAt w v ls) (h3 : ∀ p ∈ ls, p.2.length ≤ 1000) :
    Calls Try.prog 32 #[v, .func (.func 33) #[] #[]] w (RetB (.bool (!(rowsOf ls).all aloneB)) w) := by
  have HC := Lib.hid (indexTwice_any v ls w hv h3)
  clear hv h3
  generalize (!(rowsOf ls).all aloneB) = R at *
  go_enter Try.func32, Try.ntmps32
  go_wp2_with fail
  refine HC.out.mono ?_
  rintro e w' ⟨r, rfl, hr, hb⟩
  have HB := Lib.hid hb
  have HR := Lib.hid hr
  clear hb hr
  by_cases h : 0 ≤ r
  · have hd := decide_eq_true h
    have HE := Lib.hid (show true = R by rw [← HR.out, hd])
    go_wp2_with fail
    go_ret
    exact ⟨ret_bool HE.out, HB.out⟩
  · have hd := decide_eq_false h
    have HE := Lib.hid (show false = R by rw [← HR.out, hd])
    go_wp2_with fail
    go_ret
    exact ⟨ret_bool HE.out, HB.out⟩

set_option maxRecDepth 100000 in
theorem alone_any (v : Value) (ls : List (Value × List Int)) (w : World) (hv : RowsAt w v ls) (h3 : ∀ p ∈ ls, p.2.length ≤ 1000) : Calls Try.prog 19 #[v] w (RetB (.bool ((rowsOf ls).all aloneB)) w) := by
  have HC := Lib.hid (containsTwice_any v ls w hv h3)
  clear hv h3
  generalize (rowsOf ls).all aloneB = R at *
  go_enter Try.func19, Try.ntmps19
  go_wp2_with fail
  refine HC.out.mono ?_
  rintro e w' ⟨rfl, hb⟩
  have HB := Lib.hid hb
  clear hb
  cases R with
  | true =>
    go_wp2_with fail
    go_ret
    exact ⟨rfl, HB.out⟩
  | false =>
    go_wp2_with fail
    go_ret
    exact ⟨rfl, HB.out⟩
end Go.Proofs.Ytaffcpjhaacadaa
