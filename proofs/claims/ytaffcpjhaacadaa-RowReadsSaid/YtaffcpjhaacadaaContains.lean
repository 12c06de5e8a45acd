/-
  slices.ContainsFunc over ints.
  Conditions: none.
-/
import Derived.Test.YtaffcpjhaacadaaInts
import Derived.Shelf.RegionOpenPlain
set_option linter.unusedVariables false
namespace Go.Proofs.Ytaffcpjhaacadaa
open Go.RowKit

/-- A predicate on an int that reads only. -/
def PredI (g : Nat) (lb : Array Value) (p : Int → Bool) (w : World) : Prop := ∀ x : Int, Calls Try.prog g (#[.int .i64 x] ++ lb) w (Ret (.bool (p x)) w)

def FirstI (p : Int → Bool) (ps : List Int) (r : Int) : Prop := (r = -1 ∧ ∀ s ∈ ps, p s = false) ∨ ∃ (k : Nat) (s : Int), r = k ∧ ps[k]? = some s ∧ p s = true

theorem FirstI.any {p : Int → Bool} {ps : List Int} {r : Int} (h : FirstI p ps r) : decide (r ≥ 0) = ps.any p := by
  rcases h with ⟨rfl, h⟩ | ⟨k, s, rfl, hk, hp⟩
  · have : ps.any p = false := by
      rw [List.any_eq_false]
      intro x hx
      rw [h x hx]; simp
    rw [this]; rfl
  · have : ps.any p = true := List.any_eq_true.2 ⟨s, List.mem_of_getElem? hk, hp⟩
    rw [this]; simp

set_option maxRecDepth 100000 in
set_option maxHeartbeats 2000000 in
theorem index_any (g : Nat) (lb : Array Value) (eg : ∀ args w, (callFunc g args).run Try.prog w = .ok (.enter g args) w) (p : Int → Bool) (v : Value) (ps : List Int) (w : World) (hp : PredI g lb p w) (h : IntsAt w v ps) :
    Calls Try.prog 37 #[v, .func (.func g) #[] lb] w (fun e w' => ∃ r, e = .returned (.int .i64 r) ∧ FirstI p ps r ∧ w = w') := by
  obtain ⟨A, c, rfl, hlen, hat⟩ := h
  have HAT := Lib.hid hat
  have HP := Lib.hid hp
  generalize hn : ps.length = n at *
  have HN := Lib.hid hn
  clear hat hp hn
  go_enter Try.func37, Try.ntmps37
  go_wp2
  go_loopg [5, 8] n (fun gg _ s8 wr => ∃ kk : Nat, kk ≤ n ∧ gg = n - kk ∧ s8 = .int .i64 kk ∧ w = wr ∧ ∀ (j : Nat) (t : Int), j < kk → ps[j]? = some t → p t = false)
  case atStart => exact ⟨0, Nat.zero_le _, by omega, rfl, rfl, fun j t hj => absurd hj (Nat.not_lt_zero _)⟩
  case round =>
    obtain ⟨k, hk, hg, rfl, rfl, hall⟩ := hrel
    have HALL := Lib.hid hall
    have HG := Lib.hid hg
    clear hall hg
    by_cases hlt : k < n
    · have hltz : (k : Int) < (n : Int) := by omega
      obtain ⟨b, off, hA, hbl, hcell⟩ := HAT.out (by omega)
      subst hA
      obtain ⟨y, hy⟩ := exI_at (xs := ps) (k := k) (by rw [HN.out]; exact hlt)
      have hc1 := hcell k y hy
      have hcall := HP.out y
      have HY := Lib.hid hy
      clear hcell hy
      cases hq : p y with
      | true =>
        rw [hq] at hcall
        have HC := Lib.hid hcall
        have HQ := Lib.hid hq
        clear hcall hq
        go_wp2_with (go_at_fn g; refine HC.out.mono ?_; rintro e w' ⟨rfl, rfl⟩)
        go_ret
        exact ⟨k, rfl, .inr ⟨k, _, rfl, HY.out, HQ.out⟩, rfl⟩
      | false =>
        rw [hq] at hcall
        have HC := Lib.hid hcall
        have HQ := Lib.hid hq
        clear hcall hq
        go_wp2_with (go_at_fn g; refine HC.out.mono ?_; rintro e w' ⟨rfl, rfl⟩)
        go_roundg (n - (k + 1))
        case measure => have := HG.out; omega
        case rel =>
          refine ⟨k + 1, by omega, rfl, by go_num, rfl, fun j t hj ht => ?_⟩
          by_cases e : j = k
          · subst e
            have := HY.out
            rw [this] at ht
            rw [← Option.some.inj ht]
            exact HQ.out
          · exact HALL.out j t (by omega) ht
    · have hltz : ¬ (k : Int) < (n : Int) := by omega
      go_wp2
      go_ret
      refine ⟨-1, rfl, .inl ⟨rfl, fun s hs => ?_⟩, rfl⟩
      obtain ⟨j, hj, e⟩ := List.getElem_of_mem hs
      exact HALL.out j s (by have := HN.out; omega) (by rw [List.getElem?_eq_getElem hj, e])

set_option maxRecDepth 100000 in
theorem contains_any (g : Nat) (lb : Array Value) (eg : ∀ args w, (callFunc g args).run Try.prog w = .ok (.enter g args) w) (p : Int → Bool) (v : Value) (ps : List Int) (w : World) (hp : PredI g lb p w) (h : IntsAt w v ps) :
    Calls Try.prog 22 #[v, .func (.func g) #[] lb] w (Ret (.bool (ps.any p)) w) := by
  have HC := Lib.hid (index_any g lb eg p v ps w hp h)
  clear hp h
  go_enter Try.func22, Try.ntmps22
  go_wp2_with (go_at_call 37; refine HC.out.mono ?_; rintro e w' ⟨r, rfl, hr, rfl⟩)
  all_goals go_ret
  all_goals (refine ⟨?_, rfl⟩; rw [← hr.any]; simp_all)
end Go.Proofs.Ytaffcpjhaacadaa
