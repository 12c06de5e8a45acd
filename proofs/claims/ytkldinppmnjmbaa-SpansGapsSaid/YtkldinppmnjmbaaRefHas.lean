/-
  The document's Has and Right.
  Conditions: none beyond what the slices read as.
-/
import Derived.Test.YtkldinppmnjmbaaHas
import Derived.Test.YtkldinppmnjmbaaCheck
set_option linter.unusedVariables false
namespace Go.Proofs.Ytkldinppmnjmbaa
open Go.RowKit

/-- What a call answers that reads only. -/
def Ret (v : Value) (w : World) (e : Ending) (w' : World) : Prop := e = .returned v ∧ w = w'
theorem any_take {ps : List Sp} {x : Int} {i : Nat} (h : ∀ j s, j < i → ps[j]? = some s → inS x s = false) (hi : ps.length ≤ i) : ps.any (inS x) = false := by
  rw [List.any_eq_false]
  intro s hs
  obtain ⟨j, hj, e⟩ := List.getElem_of_mem hs
  rw [h j s (by omega) (by rw [List.getElem?_eq_getElem hj, e])]
  simp
theorem any_hit {ps : List Sp} {x : Int} {i : Nat} {s : Sp} (hs : ps[i]? = some s) (h : inS x s = true) : ps.any (inS x) = true :=
  List.any_eq_true.2 ⟨s, List.mem_of_getElem? hs, h⟩

set_option maxRecDepth 100000 in
set_option maxHeartbeats 2000000 in
theorem refHas_any (v : Value) (ps : List Sp) (x : Int) (w : World) (h : SpansAt w v ps) : Calls Try.prog 15 #[v, .int .i64 x] w (Ret (.bool (ps.any (inS x))) w) := by
  obtain ⟨A, c, rfl, hc1, hlen, hc2, hat⟩ := h
  have HAT := Lib.hid hat
  generalize hn : ps.length = n at *
  have HN := Lib.hid hn
  clear hat hn
  go_enter Try.func15, Try.ntmps15
  go_wp2_with fail
  go_loopg [5] n (fun g s wr => ∃ i : Nat, i ≤ n ∧ g = n - i ∧ s = .int .i64 i ∧ wr = w ∧ ∀ j s, j < i → ps[j]? = some s → inS x s = false)
  case atStart => exact ⟨0, Nat.zero_le _, by omega, rfl, rfl, fun j s hj => absurd hj (Nat.not_lt_zero _)⟩
  case round =>
    obtain ⟨i, hin, hgg, rfl, hw, hall⟩ := hrel
    subst hw
    have HG := Lib.hid hgg
    have HALL := Lib.hid hall
    clear hgg hall
    by_cases hlt : i < n
    · have hltz : (i : Int) < (n : Int) := by omega
      obtain ⟨b, off, hA, hbl, hcell⟩ := HAT.out (by omega)
      subst hA
      obtain ⟨y, hy⟩ := ex_at (xs := ps) (k := i) (by rw [HN.out]; exact hlt)
      obtain ⟨c1, c2⟩ := hcell i y hy
      have HY := Lib.hid hy
      clear hcell hy
      have hno : inS x y = false → ∀ j s, j < i + 1 → ps[j]? = some s → inS x s = false := fun h j s hj hs => by
        by_cases e : j = i
        · subst e
          have := HY.out
          rw [this] at hs
          cases hs
          exact h
        · exact HALL.out j s (by omega) hs
      obtain ⟨y1, y2⟩ := y
      have HNO := Lib.hid hno
      clear hno
      simp only at c1 c2
      by_cases h1 : y1 ≤ x
      · have g1 : decide (y1 ≤ x) = true := decide_eq_true h1
        by_cases h2 : x < y2
        · have g2 : decide (x < y2) = true := decide_eq_true h2
          have HH := Lib.hid (any_hit HY.out (show inS x (y1, y2) = true by unfold inS; simp [h1, h2]))
          clear h1 h2
          go_wp2
          go_ret
          exact ⟨by rw [HH.out]; rfl, rfl⟩
        · have g2 : decide (x < y2) = false := decide_eq_false h2
          have HH := Lib.hid (HNO.out (show inS x (y1, y2) = false by unfold inS; simp [h1]; omega))
          clear h1 h2
          go_wp2_with fail
          go_roundg (n - (i + 1))
          case measure => have := HG.out; omega
          case rel => exact ⟨i + 1, by omega, rfl, by go_num, rfl, HH.out⟩
      · have g1 : decide (y1 ≤ x) = false := decide_eq_false h1
        have HH := Lib.hid (HNO.out (show inS x (y1, y2) = false by unfold inS; simp [h1]))
        clear h1
        go_wp2_with fail
        go_roundg (n - (i + 1))
        case measure => have := HG.out; omega
        case rel => exact ⟨i + 1, by omega, rfl, by go_num, rfl, HH.out⟩
    · have HH := Lib.hid (any_take HALL.out (by rw [HN.out]; omega))
      have hltz : ¬ (i : Int) < (n : Int) := by omega
      go_wp2
      go_ret
      exact ⟨by rw [HH.out]; rfl, rfl⟩

set_option maxRecDepth 100000 in
set_option maxHeartbeats 4000000 in
theorem refRight_any (v : Value) (ps : List Sp) (w : World) (h : SpansAt w v ps) : Calls Try.prog 13 #[v] w (RetB (.bool (rightB ps)) w) := by
  obtain ⟨A, c, rfl, hc1, hlen, hc2, hat⟩ := h
  have HAT := Lib.hid hat
  generalize hn : ps.length = n at *
  have HN := Lib.hid hn
  clear hat hn
  go_enter Try.func13, Try.ntmps13
  go_wp2_with fail
  go_loopg [3] n (fun g s wr => ∃ i : Nat, i ≤ n ∧ g = n - i ∧ s = .int .i64 i ∧ Below w.heap.size w wr ∧ ∀ j, j < i → OkAt ps j)
  case atStart => exact ⟨0, Nat.zero_le _, by omega, rfl, Below.refl _ _, fun j hj => absurd hj (Nat.not_lt_zero _)⟩
  case round =>
    obtain ⟨i, hin, hgg, rfl, hbw, hall⟩ := hrel
    have HG := Lib.hid hgg
    have HB := Lib.hid hbw
    have HALL := Lib.hid hall
    clear hgg hbw hall
    by_cases hlt : i < n
    · have hltz : (i : Int) < (n : Int) := by omega
      obtain ⟨b, off, hA, hbl, hcell⟩ := HAT.out (by omega)
      subst hA
      obtain ⟨y, hy⟩ := ex_at (xs := ps) (k := i) (by rw [HN.out]; exact hlt)
      obtain ⟨c1, c2⟩ := (hcell i y hy).keep HB.out hbl
      have HY := Lib.hid hy
      have HCELL := Lib.hid hcell
      clear hcell hy
      by_cases hq : y.2 ≤ y.1
      · have HW : Hid (rightB ps = false) := rightB_no (i := i) (fun h => by have := (h y HY.out).1; unfold fullS at this; simp at this; omega)
        have g1 : decide (y.2 ≤ y.1) = true := decide_eq_true hq
        clear hq
        obtain ⟨y1, y2⟩ := y
        simp only at c1 c2 g1
        go_wp2_with fail
        go_quiet (fail)
        go_wp2_with fail
        go_ret
        exact ⟨by rw [HW.out]; rfl, below_drewN HB.out _⟩
      · have HF : Hid (fullS y = true) := by unfold Hid fullS; simp; omega
        have g1 : decide (y.2 ≤ y.1) = false := decide_eq_false hq
        rcases i with _ | k
        · have HOK : Hid (OkAt ps 0) := fun s hs => by
            have := HY.out
            rw [this] at hs
            cases hs
            exact ⟨HF.out, fun k t hk => by omega⟩
          clear hq
          obtain ⟨y1, y2⟩ := y
          simp only [Nat.zero_mul, Nat.add_zero] at c1 c2 g1
          go_wp2_with fail
          go_quiet (fail)
          go_wp2_with fail
          go_roundg (n - (0 + 1))
          case measure => have := HG.out; omega
          case rel =>
            refine ⟨0 + 1, by omega, rfl, by go_num, below_drewN HB.out _, fun j hj => ?_⟩
            obtain rfl : j = 0 := by omega
            exact HOK.out
        · obtain ⟨z, hz⟩ := ex_at (xs := ps) (k := k) (by rw [HN.out]; omega)
          obtain ⟨_, d2⟩ := (HCELL.out k z hz).keep HB.out hbl
          have hwr : IntKind.i64.wrap (k : Int) = k := IntWalk.i64_in _ (by omega)
          have hk1 : (k : Int) < (n : Int) := by omega
          have hk0 : (0 : Int) ≤ (k : Int) := by omega
          have hk2 : k < n := by omega
          by_cases hc : y.1 ≤ z.2
          · have HW : Hid (rightB ps = false) := rightB_no (i := k + 1) (fun h => by have := (h y HY.out).2 k z rfl hz; omega)
            have hcb : decide (y.1 ≤ z.2) = true := decide_eq_true hc
            clear hc hz hq
            obtain ⟨y1, y2⟩ := y
            obtain ⟨z1, z2⟩ := z
            simp only at c1 c2 d2 hcb g1
            go_wp2_with fail
            go_quiet (fail)
            go_wp2_with fail
            go_ret
            exact ⟨by rw [HW.out]; rfl, below_drewN HB.out _⟩
          · have HOK : Hid (OkAt ps (k + 1)) := fun s hs => by
              have := HY.out
              rw [this] at hs
              cases hs
              refine ⟨HF.out, fun k' t hk ht => ?_⟩
              obtain rfl : k = k' := by omega
              rw [hz] at ht
              cases ht
              omega
            have hcb : decide (y.1 ≤ z.2) = false := decide_eq_false hc
            clear hc hz hq
            obtain ⟨y1, y2⟩ := y
            obtain ⟨z1, z2⟩ := z
            simp only at c1 c2 d2 hcb g1
            go_wp2_with fail
            go_quiet (fail)
            go_wp2_with fail
            go_roundg (n - (k + 1 + 1))
            case measure => have := HG.out; omega
            case rel =>
              refine ⟨k + 1 + 1, by omega, rfl, by go_num, below_drewN HB.out _, fun j hj => ?_⟩
              by_cases e : j = k + 1
              · subst e
                exact HOK.out
              · exact HALL.out j (by omega)
    · have hin' : i = n := by omega
      subst hin'
      have hltz : ¬ (i : Int) < (i : Int) := by omega
      have HW : Hid (rightB ps = true) := rightB_yes fun j => by
        rcases Nat.lt_or_ge j i with hj | hj
        · exact HALL.out j hj
        · intro s hs
          have := (List.getElem?_eq_some_iff.1 hs).1
          rw [HN.out] at this
          omega
      go_wp2
      go_ret
      exact ⟨by rw [HW.out]; rfl, HB.out⟩
end Go.Proofs.Ytkldinppmnjmbaa
