/-
  The program's Check.
  Conditions: none.
-/
import Derived.Test.YtaffcpjhaacadaaLists
import Derived.Test.YtaffcpjhaacadaaEqual
import Derived.Test.YtaffcpjhaacadaaContains
import Derived.Test.YtaffcpjhaacadaaRowMath
set_option linter.unusedVariables false
namespace Go.Proofs.Ytaffcpjhaacadaa
open Go.RowKit

set_option maxRecDepth 100000 in
theorem noNumber_any (n : Int) (w : World) : Calls Try.prog 23 #[.int .i64 n] w (Ret (.bool (badN n)) w) := by
  unfold badN
  by_cases h : n < 0
  · rw [decide_eq_true (show n < 0 ∨ 200 < n from .inl h)]
    go_enter Try.func23, Try.ntmps23
    go_wp2
    go_ret
    exact ⟨rfl, rfl⟩
  · by_cases h2 : 200 < n
    · rw [decide_eq_true (show n < 0 ∨ 200 < n from .inr h2)]
      go_enter Try.func23, Try.ntmps23
      go_wp2
      go_ret
      exact ⟨rfl, rfl⟩
    · rw [decide_eq_false (show ¬ (n < 0 ∨ 200 < n) by omega)]
      go_enter Try.func23, Try.ntmps23
      go_wp2
      go_ret
      exact ⟨rfl, rfl⟩

theorem Try.entersNo : ∀ args w, (callFunc 23 args).run Try.prog w = .ok (.enter 23 args) w := by
  exact enters_of Try.func23 (by kernel_rfl) rfl
theorem bads_any (v : Value) (ps : List Int) (w : World) (h : IntsAt w v ps) :
    Calls Try.prog 22 #[v, .func (.func 23) #[] #[]] w (Ret (.bool (ps.any badN)) w) :=
  contains_any 23 #[] Try.entersNo badN v ps w (fun x => noNumber_any x w) h

/-- What Check answers. -/
def checkI (m : Int) (R : List (List Int)) : Int := if rightW m R = true then 0 else 1
theorem okRow_at {m : Int} {R : List (List Int)} (h : ∀ (k : Nat) r, R[k]? = some r → okRow m r = true) : R.all (okRow m) = true := by
  rw [List.all_eq_true]
  intro r hr
  obtain ⟨k, hk, e⟩ := List.getElem_of_mem hr
  exact h k r (by rw [List.getElem?_eq_getElem hk, e])
theorem okRow_not {m : Int} {R : List (List Int)} {k : Nat} {r : List Int} (h : R[k]? = some r) (hr : okRow m r = false) : rightW m R = false := by
  unfold rightW
  have : R.all (okRow m) = false := by
    rw [List.all_eq_false]
    exact ⟨r, List.mem_of_getElem? h, by rw [hr]; simp⟩
  rw [this, Bool.and_false]

set_option maxRecDepth 100000 in
set_option maxHeartbeats 2000000 in
theorem check_any (m : Int) (v : Value) (ls : List (Value × List Int)) (w : World) (hv : RowsAt w v ls) : Calls Try.prog 10 #[.int .i64 m, v] w (Ret (.int .i64 (checkI m (rowsOf ls))) w) := by
  have HV := Lib.hid hv
  have hnb := hv.bound
  obtain ⟨A, c, rfl, hlc⟩ := hv.form
  have HS := Lib.hid (show checkI m (rowsOf ls) = if rightW m (rowsOf ls) = true then 0 else 1 from rfl)
  have HD := Lib.hid (show rightW m (rowsOf ls) = (decide ((1 ≤ m ∧ m ≤ 16) ∧ (rowsOf ls).length ≤ 4096) && (rowsOf ls).all (okRow m)) from rfl)
  rw [rowsOf_length] at HD
  generalize checkI m (rowsOf ls) = R at *
  generalize hn : ls.length = n at *
  have HN := Lib.hid hn
  clear hv hlc hn
  by_cases h1 : m < 1
  · have HR := Lib.hid (show (1 : Int) = R by rw [HS.out, HD.out, decide_eq_false (by omega)]; rfl)
    go_enter Try.func10, Try.ntmps10
    go_wp2_with fail
    go_ret
    exact ⟨ret_int HR.out, rfl⟩
  · by_cases h2 : 16 < m
    · have HR := Lib.hid (show (1 : Int) = R by rw [HS.out, HD.out, decide_eq_false (by omega)]; rfl)
      go_enter Try.func10, Try.ntmps10
      go_wp2_with fail
      go_ret
      exact ⟨ret_int HR.out, rfl⟩
    · by_cases h3 : 4096 < n
      · have h3z : (4096 : Int) < (n : Int) := by omega
        have HR := Lib.hid (show (1 : Int) = R by rw [HS.out, HD.out, decide_eq_false (by omega)]; rfl)
        go_enter Try.func10, Try.ntmps10
        go_wp2_with fail
        go_ret
        exact ⟨ret_int HR.out, rfl⟩
      · have h3z : ¬ (4096 : Int) < (n : Int) := by omega
        have HR0 := Lib.hid (show rightW m (rowsOf ls) = (rowsOf ls).all (okRow m) by rw [HD.out, decide_eq_true (by omega), Bool.true_and])
        clear HD
        go_enter Try.func10, Try.ntmps10
        go_wp2_with fail
        go_loopg [6, 20] n (fun g _ s20 wr => ∃ k : Nat, k ≤ n ∧ g = n - k ∧ s20 = .int .i64 k ∧ (∀ (j : Nat) r, j < k → (rowsOf ls)[j]? = some r → okRow m r = true) ∧ wr = w)
        case atStart => exact ⟨0, Nat.zero_le _, rfl, rfl, fun j r hj => absurd hj (Nat.not_lt_zero _), rfl⟩
        case round =>
          obtain ⟨k, hk, hg, rfl, hall, rfl⟩ := hrel
          have HG := Lib.hid hg
          have HALL := Lib.hid hall
          clear hg hall
          by_cases hlt : k < n
          · have hltz : (k : Int) < (n : Int) := by omega
            obtain ⟨b, off, rfl⟩ := HV.out.addr (by have := HN.out; omega)
            obtain ⟨B, x, d, xs, hat, hxn, hck, hi⟩ := HV.out.row_at (k := k) (by have := HN.out; omega)
            have HAT := Lib.hid (snd_at hat)
            have HX := Lib.hid hxn
            have HB := Lib.hid (bads_any _ xs wr hi)
            have HOK := Lib.hid (show okRow m xs = (decide ((xs.length : Int) = m) && !xs.any badN) from rfl)
            clear hat hxn hi
            by_cases hm : (x : Int) = m
            · have hm1 : ((x : Int) == m) = true := by simpa using hm
              have hm2 : ((x : Int) != m) = false := by simpa using hm
              cases hb : xs.any badN with
              | true =>
                have HR := Lib.hid (show (1 : Int) = R by rw [HS.out, okRow_not HAT.out (by rw [HOK.out, hb]; simp)]; rfl)
                rw [hb] at HB
                clear hm hb
                go_wp2_with (go_at_call 22; refine HB.out.mono ?_; rintro e w' ⟨rfl, rfl⟩)
                go_ret
                exact ⟨ret_int HR.out, rfl⟩
              | false =>
                have HOKK := Lib.hid (show okRow m xs = true by rw [HOK.out, hb, HX.out, decide_eq_true hm]; rfl)
                rw [hb] at HB
                clear hm hb
                go_wp2_with (go_at_call 22; refine HB.out.mono ?_; rintro e w' ⟨rfl, rfl⟩)
                go_roundg (n - (k + 1))
                case measure => have := HG.out; omega
                case rel =>
                  refine ⟨k + 1, by omega, rfl, by go_num, fun j r hj hr => ?_, rfl⟩
                  by_cases e : j = k
                  · subst e
                    have := HAT.out
                    rw [this] at hr
                    rw [← Option.some.inj hr]
                    exact HOKK.out
                  · exact HALL.out j r (by omega) hr
            · have hm1 : ((x : Int) == m) = false := by simpa using hm
              have hm2 : ((x : Int) != m) = true := by simpa using hm
              have HR := Lib.hid (show (1 : Int) = R by rw [HS.out, okRow_not HAT.out (by rw [HOK.out, HX.out, decide_eq_false hm]; rfl)]; rfl)
              clear hm
              go_wp2_with fail
              go_ret
              exact ⟨ret_int HR.out, rfl⟩
          · have hltz : ¬ (k : Int) < (n : Int) := by omega
            have HR := Lib.hid (show (0 : Int) = R by
              have : rightW m (rowsOf ls) = true := by
                rw [HR0.out]
                exact okRow_at (fun j r hr => HALL.out j r (by
                  have := (List.getElem?_eq_some_iff.1 hr).1
                  rw [rowsOf_length] at this
                  have := HN.out
                  omega) hr)
              rw [HS.out, this]
              rfl)
            go_wp2_with fail
            go_ret
            exact ⟨ret_int HR.out, rfl⟩
end Go.Proofs.Ytaffcpjhaacadaa
