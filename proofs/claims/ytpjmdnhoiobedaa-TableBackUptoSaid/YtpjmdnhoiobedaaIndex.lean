/-
  slices.IndexFunc, slices.ContainsFunc over spans.
  Conditions: the predicate, whatever the world, answers so, and leaves all that was.
-/
import Derived.Test.YtpjmdnhoiobedaaSpans
import Derived.Shelf.RegionOpenPlain
set_option linter.unusedVariables false
namespace Go.Proofs.Ytpjmdnhoiobedaa
open Go.RowKit

/-- A predicate that may make memory. -/
def PredS (g : Nat) (lb : Array Value) (p : Sp → Bool) (w : World) : Prop :=
  ∀ (W : World) (x : Sp), Below w.heap.size w W → Calls Try.prog g (#[.agg #[.int .i64 x.1, .int .i64 x.2]] ++ lb) W (RetB (.bool (p x)) W)
/-- The first at which it holds, or -1. -/
def FirstOf (p : Sp → Bool) (ps : List Sp) (r : Int) : Prop :=
  (r = -1 ∧ ∀ s ∈ ps, p s = false) ∨ ∃ (k : Nat) (s : Sp), r = k ∧ ps[k]? = some s ∧ p s = true ∧ ∀ (j : Nat) (t : Sp), j < k → ps[j]? = some t → p t = false
theorem FirstOf.any {p : Sp → Bool} {ps : List Sp} {r : Int} (h : FirstOf p ps r) : decide (r ≥ 0) = ps.any p := by
  rcases h with ⟨rfl, h⟩ | ⟨k, s, rfl, hk, hp, _⟩
  · have : ps.any p = false := by
      rw [List.any_eq_false]
      intro x hx
      rw [h x hx]; simp
    rw [this]; rfl
  · have : ps.any p = true := List.any_eq_true.2 ⟨s, List.mem_of_getElem? hk, hp⟩
    rw [this]; simp

set_option maxRecDepth 100000 in
set_option maxHeartbeats 2000000 in
theorem index_any (g : Nat) (lb : Array Value) (eg : ∀ args w, (callFunc g args).run Try.prog w = .ok (.enter g args) w) (p : Sp → Bool) (v : Value) (ps : List Sp) (w : World) (hp : PredS g lb p w) (h : SpansAt w v ps) :
    Calls Try.prog 102 #[v, .func (.func g) #[] lb] w (fun e w' => ∃ r, e = .returned (.int .i64 r) ∧ FirstOf p ps r ∧ Below w.heap.size w w') := by
  obtain ⟨A, c, rfl, hc1, hlen, hc2, hat⟩ := h
  have HAT := Lib.hid hat
  have HP := Lib.hid hp
  generalize hn : ps.length = n at *
  have HN := Lib.hid hn
  clear hat hp hn
  go_enter Try.func102, Try.ntmps102
  go_wp2
  go_loopg [5, 8] n (fun gg _ s8 wr => ∃ kk : Nat, kk ≤ n ∧ gg = n - kk ∧ s8 = .int .i64 kk ∧ Below w.heap.size w wr ∧ ∀ (j : Nat) (t : Sp), j < kk → ps[j]? = some t → p t = false)
  case atStart => exact ⟨0, Nat.zero_le _, by omega, rfl, Below.refl _ w, fun j t hj => absurd hj (Nat.not_lt_zero _)⟩
  case round =>
    obtain ⟨k, hk, hg, rfl, hbw, hall⟩ := hrel
    have HB := Lib.hid hbw
    have HALL := Lib.hid hall
    have HG := Lib.hid hg
    clear hbw hall hg
    by_cases hlt : k < n
    · have hltz : (k : Int) < (n : Int) := by omega
      obtain ⟨b, off, hA, hbl, hcell⟩ := HAT.out (by omega)
      subst hA
      obtain ⟨y, hy⟩ := ex_at (xs := ps) (k := k) (by rw [HN.out]; exact hlt)
      obtain ⟨hc1', hc2'⟩ := (hcell k y hy).keep HB.out hbl
      have hcall := HP.out wr y HB.out
      have HY := Lib.hid hy
      clear hcell hy
      cases hq : p y with
      | true =>
        rw [hq] at hcall
        have HC := Lib.hid hcall
        have HQ := Lib.hid hq
        clear hcall hq
        obtain ⟨y1, y2⟩ := y
        simp only at hc1' hc2'
        go_wp2_with (go_at_fn g; refine HC.out.mono ?_; rintro e w' ⟨rfl, hb'⟩)
        go_ret
        exact ⟨k, rfl, .inr ⟨k, _, rfl, HY.out, HQ.out, HALL.out⟩, HB.out.trans (hb'.mono HB.out.size)⟩
      | false =>
        rw [hq] at hcall
        have HC := Lib.hid hcall
        have HQ := Lib.hid hq
        clear hcall hq
        obtain ⟨y1, y2⟩ := y
        simp only at hc1' hc2'
        go_wp2_with (go_at_fn g; refine HC.out.mono ?_; rintro e w' ⟨rfl, hb'⟩)
        go_roundg (n - (k + 1))
        case measure => have := HG.out; omega
        case rel =>
          refine ⟨k + 1, by omega, rfl, by go_num, HB.out.trans (hb'.mono HB.out.size), fun j t hj ht => ?_⟩
          by_cases e : j = k
          · subst e
            have := HY.out
            rw [this] at ht
            rw [← Option.some.inj ht]
            exact HQ.out
          · exact HALL.out j t (by omega) ht
    · have hltz : ¬ (k : Int) < (n : Int) := by omega
      go_wp2
      go_ret
      refine ⟨-1, rfl, .inl ⟨rfl, fun s hs => ?_⟩, HB.out⟩
      obtain ⟨j, hj, e⟩ := List.getElem_of_mem hs
      exact HALL.out j s (by have := HN.out; omega) (by rw [List.getElem?_eq_getElem hj, e])

theorem contains_any (g : Nat) (lb : Array Value) (eg : ∀ args w, (callFunc g args).run Try.prog w = .ok (.enter g args) w) (p : Sp → Bool) (v : Value) (ps : List Sp) (w : World) (hp : PredS g lb p w) (h : SpansAt w v ps) :
    Calls Try.prog 94 #[v, .func (.func g) #[] lb] w (RetB (.bool (ps.any p)) w) := by
  have HC := Lib.hid (index_any g lb eg p v ps w hp h)
  clear hp h
  go_enter Try.func94, Try.ntmps94
  go_wp2_with (go_at_call 102; refine HC.out.mono ?_; rintro e w' ⟨r, rfl, hr, hb⟩)
  all_goals go_ret
  all_goals (refine ⟨?_, hb⟩; rw [← hr.any]; simp_all)
end Go.Proofs.Ytpjmdnhoiobedaa
