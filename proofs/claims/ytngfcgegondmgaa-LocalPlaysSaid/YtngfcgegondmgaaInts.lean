/-
  A slice that reads as a list of ints; slices.Contains over it, and the document's Has.
  Conditions: none.
-/
import Derived.Test.YtngfcgegondmgaaLocs
import Derived.Lib.SliceRun
import Derived.Shelf.RegionOpenPlain
set_option linter.unusedVariables false
namespace Go.Proofs.Ytngfcgegondmgaa
open Go.RowKit

/-- The slice value 'v' reads as the numbers 'xs'; it lies in memory that is there. -/
def IntsAt (W : World) (v : Value) (xs : List Int) : Prop :=
  ∃ A c, v = .slice A xs.length c ∧ xs.length ≤ c ∧ c ≤ 9223372036854775807 ∧
    (0 < xs.length → ∃ b off, A = some ⟨b, off, none⟩ ∧ b < W.heap.size ∧ ∀ (j : Nat) (x : Int), xs[j]? = some x → W.cell? ⟨b, off + j, none⟩ = some (.int .i64 x))
theorem IntsAt.nil (W : World) : IntsAt W (.slice none 0 0) [] := ⟨none, 0, rfl, Nat.le_refl _, by decide, fun h => absurd h (by decide)⟩
theorem IntsAt.keep {W W' : World} {v : Value} {xs : List Int} (h : IntsAt W v xs) (hb : Below W.heap.size W W') : IntsAt W' v xs := by
  obtain ⟨A, c, h1, h2, h2', h3⟩ := h
  refine ⟨A, c, h1, h2, h2', fun hn => ?_⟩
  obtain ⟨b, off, e, hlt, hc⟩ := h3 hn
  exact ⟨b, off, e, Nat.lt_of_lt_of_le hlt hb.size, fun j x hx => (hb.cell (p := ⟨b, off + j, none⟩) hlt).trans (hc j x hx)⟩
theorem IntsAt.form {W : World} {v : Value} {xs : List Int} (h : IntsAt W v xs) : ∃ A c, v = .slice A xs.length c := by
  obtain ⟨A, c, h1, _⟩ := h
  exact ⟨A, c, h1⟩
theorem IntsAt.bound {W : World} {v : Value} {xs : List Int} (h : IntsAt W v xs) : xs.length ≤ 9223372036854775807 := by
  obtain ⟨A, c, h1, h2, h3, _⟩ := h
  omega
theorem IntsAt.cut {W : World} {A : Option Addr} {n c : Nat} {xs : List Int} {i : Nat} (h : IntsAt W (.slice A n c) xs) (hi : i ≤ n) : IntsAt W (.slice A i c) (xs.take i) := by
  obtain ⟨A', c', h1, h2, h2', h3⟩ := h
  injection h1 with e1 e2 e3
  subst e1 e2 e3
  have hl : (xs.take i).length = i := by rw [List.length_take]; omega
  refine ⟨A, c, by rw [hl], by rw [hl]; omega, h2', fun hn => ?_⟩
  obtain ⟨b, off, e, hlt, hc⟩ := h3 (by omega)
  refine ⟨b, off, e, hlt, fun j x hx => hc j x ?_⟩
  rw [List.getElem?_take] at hx
  split at hx
  · exact hx
  · cases hx
theorem exI_at {xs : List Int} {k : Nat} (h : k < xs.length) : ∃ x, xs[k]? = some x := ⟨xs[k], List.getElem?_eq_getElem h⟩

/-- Is it there? -/
def hasI (xs : List Int) (u : Int) : Bool := xs.contains u
theorem has_yes {xs : List Int} {k : Nat} {x : Int} (h : xs[k]? = some x) : hasI xs x = true := by
  unfold hasI
  rw [List.contains_iff_mem]
  exact List.mem_of_getElem? h
theorem has_no {xs : List Int} {u : Int} (h : ∀ (j : Nat) (x : Int), j < xs.length → xs[j]? = some x → x ≠ u) : hasI xs u = false := by
  cases hc : hasI xs u with
  | false => rfl
  | true =>
    unfold hasI at hc
    rw [List.contains_iff_mem] at hc
    obtain ⟨j, hj, e⟩ := List.getElem_of_mem hc
    exact absurd rfl (h j u hj (by rw [List.getElem?_eq_getElem hj, e]))

set_option maxRecDepth 100000 in
set_option maxHeartbeats 2000000 in
theorem indexI_any (v : Value) (xs : List Int) (u : Int) (w : World) (h : IntsAt w v xs) :
    Calls Try.prog 61 #[v, .int .i64 u] w (fun e w' => w = w' ∧ ((e = .returned (.int .i64 (-1)) ∧ hasI xs u = false) ∨ ∃ k : Nat, e = .returned (.int .i64 k) ∧ hasI xs u = true)) := by
  obtain ⟨A, c, rfl, h2, h2', h3⟩ := h
  have HC := Lib.hid h3
  generalize hn : xs.length = n at *
  have HN := Lib.hid hn
  clear h3 hn
  go_enter Try.func61, Try.ntmps61
  go_wp2
  go_loopg [5, 8] n (fun gg _ s wr => ∃ k : Nat, k ≤ n ∧ gg = n - k ∧ s = .int .i64 k ∧ w = wr ∧ ∀ (j : Nat) (x : Int), j < k → xs[j]? = some x → x ≠ u)
  case atStart => exact ⟨0, Nat.zero_le _, by omega, rfl, rfl, fun j x hj => absurd hj (Nat.not_lt_zero _)⟩
  case round =>
    obtain ⟨k, hk, hg, rfl, rfl, hall⟩ := hrel
    have HALL := Lib.hid hall
    have HG := Lib.hid hg
    clear hall hg
    by_cases hlt : k < n
    · have hltz : (k : Int) < (n : Int) := by omega
      obtain ⟨b, off, rfl, hbl, hcell⟩ := HC.out (by omega)
      obtain ⟨y, hy⟩ := exI_at (xs := xs) (k := k) (by rw [HN.out]; exact hlt)
      have c1 := hcell k y hy
      have HY := Lib.hid hy
      clear hcell hy
      cases hq : (u == y) with
      | true =>
        have e : u = y := by simpa using hq
        subst e
        go_wp2
        go_ret
        exact ⟨rfl, .inr ⟨_, rfl, has_yes HY.out⟩⟩
      | false =>
        have e : ¬ u = y := by simpa using hq
        have HE := Lib.hid e
        clear e
        go_wp2
        go_roundg (n - (k + 1))
        case measure => have := HG.out; omega
        case rel =>
          refine ⟨k + 1, by omega, rfl, by go_num, rfl, fun j x hj hx => ?_⟩
          by_cases e : j = k
          · subst e
            have := HY.out
            rw [this] at hx
            rw [← Option.some.inj hx]
            exact fun h => HE.out h.symm
          · exact HALL.out j x (by omega) hx
    · have hltz : ¬ (k : Int) < (n : Int) := by omega
      go_wp2
      go_ret
      exact ⟨rfl, .inl ⟨rfl, has_no fun j x hj hx => HALL.out j x (by have := HN.out; omega) hx⟩⟩
theorem contains_ints (v : Value) (xs : List Int) (u : Int) (w : World) (h : IntsAt w v xs) :
    Calls Try.prog 42 #[v, .int .i64 u] w (Ret (.bool (hasI xs u)) w) := by
  have HC := Lib.hid (indexI_any v xs u w h)
  obtain ⟨A, c, rfl⟩ := h.form
  clear h
  go_enter Try.func42, Try.ntmps42
  go_wp2_with fail
  refine HC.out.mono ?_
  rintro e w' ⟨rfl, ⟨rfl, hr⟩ | ⟨k, rfl, hr⟩⟩
  · have HH := Lib.hid hr
    clear hr
    go_wp2
    go_ret
    exact ⟨by rw [HH.out]; rfl, rfl⟩
  · have HH := Lib.hid hr
    clear hr
    have hk : (0 : Int) ≤ (k : Int) := by omega
    go_wp2
    go_ret
    exact ⟨by rw [HH.out]; rfl, rfl⟩

set_option maxRecDepth 100000 in
set_option maxHeartbeats 2000000 in
theorem refHas_any (v : Value) (xs : List Int) (u : Int) (w : World) (h : IntsAt w v xs) :
    Calls Try.prog 44 #[v, .int .i64 u] w (Ret (.bool (hasI xs u)) w) := by
  obtain ⟨A, c, rfl, h2, h2', h3⟩ := h
  have HC := Lib.hid h3
  generalize hn : xs.length = n at *
  have HN := Lib.hid hn
  clear h3 hn
  go_enter Try.func44, Try.ntmps44
  go_wp2
  go_loopg [5] n (fun gg s wr => ∃ k : Nat, k ≤ n ∧ gg = n - k ∧ s = .int .i64 k ∧ w = wr ∧ ∀ (j : Nat) (x : Int), j < k → xs[j]? = some x → x ≠ u)
  case atStart => exact ⟨0, Nat.zero_le _, by omega, rfl, rfl, fun j x hj => absurd hj (Nat.not_lt_zero _)⟩
  case round =>
    obtain ⟨k, hk, hg, rfl, rfl, hall⟩ := hrel
    have HALL := Lib.hid hall
    have HG := Lib.hid hg
    clear hall hg
    by_cases hlt : k < n
    · have hltz : (k : Int) < (n : Int) := by omega
      obtain ⟨b, off, rfl, hbl, hcell⟩ := HC.out (by omega)
      obtain ⟨y, hy⟩ := exI_at (xs := xs) (k := k) (by rw [HN.out]; exact hlt)
      have c1 := hcell k y hy
      have HY := Lib.hid hy
      clear hcell hy
      cases hq : (y == u) with
      | true =>
        have e : y = u := by simpa using hq
        subst e
        go_wp2
        go_ret
        exact ⟨by rw [has_yes HY.out]; rfl, rfl⟩
      | false =>
        have e : ¬ y = u := by simpa using hq
        have HE := Lib.hid e
        clear e
        go_wp2
        go_roundg (n - (k + 1))
        case measure => have := HG.out; omega
        case rel =>
          refine ⟨k + 1, by omega, rfl, by go_num, rfl, fun j x hj hx => ?_⟩
          by_cases e : j = k
          · subst e
            have := HY.out
            rw [this] at hx
            rw [← Option.some.inj hx]
            exact HE.out
          · exact HALL.out j x (by omega) hx
    · have hltz : ¬ (k : Int) < (n : Int) := by omega
      go_wp2
      go_ret
      exact ⟨by rw [has_no fun j x hj hx => HALL.out j x (by have := HN.out; omega) hx]; rfl, rfl⟩
end Go.Proofs.Ytngfcgegondmgaa
