/-
  Lists of ints held against each other, by the document.
  Conditions: none.
-/
import Derived.Test.YtpblfonkcibagaaPlans
import Derived.Test.YtpblfonkcibagaaInts
set_option linter.unusedVariables false
namespace Go.Proofs.Ytpblfonkcibagaa
open Go.RowKit

/-- What a call answers that reads only, and may draw. -/
def RetD (v : Value) (w : World) (e : Ending) (w' : World) : Prop := e = .returned v ∧ ∃ n, w' = w.drewN n
theorem RetD.below {v : Value} {w : World} {e : Ending} {w' : World} (h : RetD v w e w') : e = .returned v ∧ Below w.heap.size w w' := by
  obtain ⟨h1, n, rfl⟩ := h
  exact ⟨h1, below_drewN (Below.refl _ _) n⟩
theorem quiet_retD {P : Program} {f : FuncId} {args : Array Value} {w : World} {n : Nat} {v : Value} (h : Calls P f args (w.drewN n) (RetD v (w.drewN n))) :
    Calls P f args (w.drewN n) (fun e w' => e = .returned v ∧ ∃ n', w' = w.drewN n') :=
  h.mono (fun e w' h => ⟨h.1, by obtain ⟨_, q, rfl⟩ := h; exact ⟨n + q, World.drewN_drewN _ _ _⟩⟩)
theorem IntsAt.draw {W : World} {v : Value} {xs : List Int} (h : IntsAt W v xs) (q : Nat) : IntsAt (W.drewN q) v xs := h.keep (below_drewN (Below.refl _ _) q)

def SameRel (xs ys : List Int) (w : World) (g : Nat) (i : Value) (wr : World) : Prop := ∃ k : Nat, k ≤ xs.length ∧ g = xs.length - k ∧ i = .int .i64 k ∧ xs.take k = ys.take k ∧ ∃ q, wr = w.drewN q

theorem takeI_same {xs ys : List Int} {k : Nat} {x y : Int} (h : xs.take k = ys.take k) (hx : xs[k]? = some x) (hy : ys[k]? = some y) (e : x = y) : xs.take (k + 1) = ys.take (k + 1) := by
  rw [List.take_add_one, List.take_add_one, h, hx, hy, e]

theorem differI {xs ys : List Int} {k : Nat} {x y : Int} (hx : xs[k]? = some x) (hy : ys[k]? = some y) (e : x ≠ y) : xs ≠ ys := by
  rintro rfl
  rw [hx] at hy
  exact e (Option.some.inj hy)

set_option maxHeartbeats 1000000 in
theorem refInts_any (xs ys : List Int) (u v : Value) (w : World) (hs : IntsAt w u xs) (ht : IntsAt w v ys) :
    Calls Try.prog 15 #[u, v] w (RetD (.bool (decide (xs = ys))) w) := by
  obtain ⟨A, c, rfl, hl, hat⟩ := hs
  obtain ⟨B, d, rfl, hm, hbt⟩ := ht
  have HA := Lib.hid hat
  have HB := Lib.hid hbt
  clear hat hbt
  by_cases hne : xs.length = ys.length
  · have HN := Lib.hid hne
    have hn1 : ((xs.length : Int) == (ys.length : Int)) = true := by simp; omega
    have hn2 : ((xs.length : Int) != (ys.length : Int)) = false := by simp; omega
    clear hne
    obtain ⟨m, hm'⟩ : ∃ m, m = ys.length := ⟨_, rfl⟩
    rw [← hm'] at hm hn1 hn2 HN ⊢
    have HM := Lib.hid hm'
    clear hm'
    go_enter Try.func15, Try.ntmps15
    go_wp2_with fail
    go_loopg [5] xs.length (fun g i wr => SameRel xs ys w g i wr)
    case atStart => exact ⟨0, Nat.zero_le _, rfl, rfl, rfl, 0, rfl⟩
    case round =>
      obtain ⟨k, hk, hg, rfl, htk, q, hq⟩ := hrel
      have HG := Lib.hid hg
      have HT := Lib.hid htk
      have HQ := Lib.hid hq
      have HW := Lib.hid (show Below w.heap.size w wr by rw [hq]; exact below_drewN (Below.refl _ _) q)
      clear hg htk hq
      by_cases hlt : k < xs.length
      · obtain ⟨x, hx⟩ := exP_at (xs := xs) hlt
        obtain ⟨y, hy⟩ := exP_at (xs := ys) (k := k) (by have := HN.out; have := HM.out; omega)
        obtain ⟨b, off, rfl, hb, hc⟩ := HA.out (by omega)
        obtain ⟨b', off', rfl, hb', hc'⟩ := HB.out (by have := HN.out; have := HM.out; omega)
        have hck : wr.cell? ⟨b, off + k, none⟩ = some (.int .i64 x) := (HW.out.cell (p := ⟨b, off + k, none⟩) hb).trans (hc k x hx)
        have hck' : wr.cell? ⟨b', off' + k, none⟩ = some (.int .i64 y) := (HW.out.cell (p := ⟨b', off' + k, none⟩) hb').trans (hc' k y hy)
        have hkm : k < m := by have := HN.out; omega
        have HX := Lib.hid hx
        have HY := Lib.hid hy
        clear hc hc' hx hy
        by_cases hxy : x = y
        · have HE := Lib.hid hxy
          have hxy' : (x == y) = true := by simpa using hxy
          have hxy'' : (x != y) = false := by simpa using hxy
          clear hxy
          go_wp2_with fail
          go_quiet (fail)
          go_wp2_with fail
          go_roundg (xs.length - (k + 1))
          case measure => have := HG.out; omega
          case rel => exact ⟨k + 1, by omega, rfl, by go_num, takeI_same HT.out HX.out HY.out HE.out, _, by rw [HQ.out, World.drewN_drewN]⟩
        · have E := Lib.hid (decide_eq_false (differI HX.out HY.out hxy))
          have hxy' : (x == y) = false := by simpa using hxy
          have hxy'' : (x != y) = true := by simpa using hxy
          clear hxy
          go_wp2_with fail
          go_quiet (fail)
          go_wp2_with fail
          go_ret
          exact ⟨ret_bool E.out.symm, _, by rw [HQ.out, World.drewN_drewN]⟩
      · have E := Lib.hid (decide_eq_true (show xs = ys by
          have := HT.out
          rwa [List.take_of_length_le (by omega), List.take_of_length_le (by have := HN.out; have := HM.out; omega)] at this))
        go_wp2_with fail
        go_ret
        exact ⟨ret_bool E.out.symm, _, HQ.out⟩
  · have E := Lib.hid (decide_eq_false (show ¬ xs = ys from fun e => hne (by rw [e])))
    have hn1 : ((xs.length : Int) == (ys.length : Int)) = false := by simp; omega
    have hn2 : ((xs.length : Int) != (ys.length : Int)) = true := by simp; omega
    clear hne
    go_enter Try.func15, Try.ntmps15
    go_wp2_with fail
    go_ret
    exact ⟨ret_bool E.out.symm, 0, rfl⟩
theorem sameI_any (xs : List Int) (u v : Value) (w : World) (hs : IntsAt w u xs) (ht : IntsAt w v xs) : Calls Try.prog 15 #[u, v] w (RetB (.bool true) w) :=
  (refInts_any xs xs u v w hs ht).mono fun e w' h => by
    have h := h.below
    rw [decide_eq_true rfl] at h
    exact h
end Go.Proofs.Ytpblfonkcibagaa
