/-
  slices.ContainsFunc over ints; the program's Check.
  Conditions: none.
-/
import Derived.Test.YtkkaekcjinopkaaInts
import Derived.Shelf.RegionOpenPlain
set_option linter.unusedVariables false
namespace Go.Proofs.Ytkkaekcjinopkaa
open Go.RowKit

set_option maxRecDepth 100000 in
theorem negative_any (n : Int) (w : World) : Calls Try.prog 19 #[.int .i64 n] w (Ret (.bool (decide (n < 0))) w) := by
  by_cases h : n < 0
  · rw [decide_eq_true h]
    go_enter Try.func19, Try.ntmps19
    go_wp2
    go_ret
    exact ⟨rfl, rfl⟩
  · rw [decide_eq_false h]
    go_enter Try.func19, Try.ntmps19
    go_wp2
    go_ret
    exact ⟨rfl, rfl⟩

/-- A predicate on an int that reads only. -/
def PredI (g : Nat) (lb : Array Value) (p : Int → Bool) (w : World) : Prop := ∀ x : Int, Calls Try.prog g (#[.int .i64 x] ++ lb) w (Ret (.bool (p x)) w)
def FirstI (p : Int → Bool) (ps : List Int) (r : Int) : Prop := (r = -1 ∧ ∀ s ∈ ps, p s = false) ∨ ∃ (k : Nat) (s : Int), r = k ∧ ps[k]? = some s ∧ p s = true
theorem FirstI.any {p : Int → Bool} {ps : List Int} {r : Int} (h : FirstI p ps r) : decide (r ≥ 0) = ps.any p := by
  rcases h with ⟨rfl, h⟩ | ⟨k, s, rfl, hk, hp⟩
  · have : ps.any p = false := by
      rw [List.any_eq_false]
      intro x hx
      rw [h x hx]; simp
    rw [this]; rfl
  · have : ps.any p = true := List.any_eq_true.2 ⟨s, List.mem_of_getElem? hk, hp⟩
    rw [this]; simp

set_option maxRecDepth 100000 in
set_option maxHeartbeats 2000000 in
theorem index_any (g : Nat) (lb : Array Value) (eg : ∀ args w, (callFunc g args).run Try.prog w = .ok (.enter g args) w) (p : Int → Bool) (v : Value) (ps : List Int) (w : World) (hp : PredI g lb p w) (h : IntsAt w v ps) :
    Calls Try.prog 30 #[v, .func (.func g) #[] lb] w (fun e w' => ∃ r, e = .returned (.int .i64 r) ∧ FirstI p ps r ∧ w = w') := by
  obtain ⟨A, c, rfl, hlen, hat⟩ := h
  have HAT := Lib.hid hat
  have HP := Lib.hid hp
  generalize hn : ps.length = n at *
  have HN := Lib.hid hn
  clear hat hp hn
  go_enter Try.func30, Try.ntmps30
  go_wp2
  go_loopg [5, 8] n (fun gg _ s8 wr => ∃ kk : Nat, kk ≤ n ∧ gg = n - kk ∧ s8 = .int .i64 kk ∧ w = wr ∧ ∀ (j : Nat) (t : Int), j < kk → ps[j]? = some t → p t = false)
  case atStart => exact ⟨0, Nat.zero_le _, by omega, rfl, rfl, fun j t hj => absurd hj (Nat.not_lt_zero _)⟩
  case round =>
    obtain ⟨k, hk, hg, rfl, rfl, hall⟩ := hrel
    have HALL := Lib.hid hall
    have HG := Lib.hid hg
    clear hall hg
    by_cases hlt : k < n
    · have hltz : (k : Int) < (n : Int) := by omega
      obtain ⟨b, off, hA, hbl, hcell⟩ := HAT.out (by omega)
      subst hA
      obtain ⟨y, hy⟩ := exI_at (xs := ps) (k := k) (by rw [HN.out]; exact hlt)
      have hc1 := hcell k y hy
      have hcall := HP.out y
      have HY := Lib.hid hy
      clear hcell hy
      cases hq : p y with
      | true =>
        rw [hq] at hcall
        have HC := Lib.hid hcall
        have HQ := Lib.hid hq
        clear hcall hq
        go_wp2_with (go_at_fn g; refine HC.out.mono ?_; rintro e w' ⟨rfl, rfl⟩)
        go_ret
        exact ⟨k, rfl, .inr ⟨k, _, rfl, HY.out, HQ.out⟩, rfl⟩
      | false =>
        rw [hq] at hcall
        have HC := Lib.hid hcall
        have HQ := Lib.hid hq
        clear hcall hq
        go_wp2_with (go_at_fn g; refine HC.out.mono ?_; rintro e w' ⟨rfl, rfl⟩)
        go_roundg (n - (k + 1))
        case measure => have := HG.out; omega
        case rel =>
          refine ⟨k + 1, by omega, rfl, by go_num, rfl, fun j t hj ht => ?_⟩
          by_cases e : j = k
          · subst e
            have := HY.out
            rw [this] at ht
            rw [← Option.some.inj ht]
            exact HQ.out
          · exact HALL.out j t (by omega) ht
    · have hltz : ¬ (k : Int) < (n : Int) := by omega
      go_wp2
      go_ret
      refine ⟨-1, rfl, .inl ⟨rfl, fun s hs => ?_⟩, rfl⟩
      obtain ⟨j, hj, e⟩ := List.getElem_of_mem hs
      exact HALL.out j s (by have := HN.out; omega) (by rw [List.getElem?_eq_getElem hj, e])

set_option maxRecDepth 100000 in
theorem contains_any (g : Nat) (lb : Array Value) (eg : ∀ args w, (callFunc g args).run Try.prog w = .ok (.enter g args) w) (p : Int → Bool) (v : Value) (ps : List Int) (w : World) (hp : PredI g lb p w) (h : IntsAt w v ps) :
    Calls Try.prog 18 #[v, .func (.func g) #[] lb] w (Ret (.bool (ps.any p)) w) := by
  have HC := Lib.hid (index_any g lb eg p v ps w hp h)
  clear hp h
  go_enter Try.func18, Try.ntmps18
  go_wp2_with (go_at_call 30; refine HC.out.mono ?_; rintro e w' ⟨r, rfl, hr, rfl⟩)
  all_goals go_ret
  all_goals (refine ⟨?_, rfl⟩; rw [← hr.any]; simp_all)

theorem Try.entersNeg : ∀ args w, (callFunc 19 args).run Try.prog w = .ok (.enter 19 args) w := by
  exact enters_of Try.func19 (by kernel_rfl) rfl
theorem neg_any (v : Value) (ps : List Int) (w : World) (h : IntsAt w v ps) :
    Calls Try.prog 18 #[v, .func (.func 19) #[] #[]] w (Ret (.bool (negB ps)) w) :=
  contains_any 19 #[] Try.entersNeg (fun n => decide (n < 0)) v ps w (fun x => negative_any x w) h

set_option maxRecDepth 100000 in
theorem most_any (e : Int) (w : World) : Calls Try.prog 17 #[.int .i64 e] w (Ret (.int .i64 (mostN e)) w) := by
  by_cases h0 : e = 0
  · subst h0
    go_enter Try.func17, Try.ntmps17
    go_wp2
    go_ret
    exact ⟨rfl, rfl⟩
  · have h0' : (e == 0) = false := by simpa using h0
    by_cases h3 : e = 3
    · subst h3
      clear h0 h0'
      go_enter Try.func17, Try.ntmps17
      go_wp2
      go_ret
      exact ⟨rfl, rfl⟩
    · have h3' : (e == 3) = false := by simpa using h3
      have hm : mostN e = 0 := by unfold mostN; rw [if_neg h0, if_neg h3]
      rw [hm]
      clear h0 h3 hm
      go_enter Try.func17, Try.ntmps17
      go_wp2
      go_ret
      exact ⟨rfl, rfl⟩
set_option maxRecDepth 100000 in
theorem flag_any (p : Bool) (w : World) : Calls Try.prog 15 #[.bool p] w (Ret (.int .u64 (pN p)) w) := by
  cases p
  all_goals
    go_enter Try.func15, Try.ntmps15
    go_wp2
    go_ret
    exact ⟨rfl, rfl⟩

/-- What Check answers. -/
def checkI (r : Rep) : Int := if rightB r = true then 0 else 1
set_option maxRecDepth 100000 in
set_option maxHeartbeats 2000000 in
theorem check_any (r : Rep) (u : Value) (w : World) (hu : IntsAt w u r.ns) : Calls Try.prog 8 #[.agg (repA r u)] w (RetB (.int .i64 (checkI r)) w) := by
  have hb1 := below_new (W := w) (.cells (repA r u) 25)
  have ha1 := RepAt.new w r u
  obtain ⟨c0, c1, c2, c3⟩ := ha1.cells
  have HB := Lib.hid hb1
  have HU := Lib.hid (hu.keep hb1)
  have HS := Lib.hid (show checkI r = if (headB r && (decide (r.ns.length ≤ mostN r.e) && !negB r.ns && (decide (r.e = 0) || (!r.p && decide (r.m = 0))))) = true then 0 else 1 from rfl)
  obtain ⟨A, c, rfl, hl, _⟩ := hu
  clear ha1 hb1
  go_enter Try.func8, Try.ntmps8
  go_upto_region 1 with fail
  generalize w.alloc (.cells (repA r (.slice A r.ns.length c)) 25) = w1 at *
  have HH := Lib.hid (show headB r = decide ((0 ≤ r.e ∧ r.e ≤ 30) ∧ (0 ≤ r.m ∧ r.m ≤ 255)) from rfl)
  have HNG := Lib.hid (fun n => neg_any _ r.ns (w1.drewN n) (HU.out.keep (below_drewN (Below.refl _ _) n)))
  have HM := Lib.hid (fun W => most_any r.e W)
  generalize checkI r = R at *
  generalize headB r = H at *
  generalize negB r.ns = N at *
  generalize mostN r.e = M at *
  obtain ⟨e, p, m, ns⟩ := r
  simp only at *
  generalize ns.length = n at *
  clear HU
  cases H with
  | false =>
    have HR := Lib.hid (show (1 : Int) = R by rw [HS.out]; simp)
    have hh := of_decide_eq_false HH.out.symm
    clear HS HH
    by_cases h1 : e < 0
    · clear hh
      go_wp2_with fail
      go_ret
      exact ⟨ret_int HR.out, HB.out⟩
    · by_cases h2 : 30 < e
      · clear hh
        go_wp2_with fail
        go_ret
        exact ⟨ret_int HR.out, HB.out⟩
      · by_cases h3 : m < 0
        · clear hh
          go_wp2_with fail
          go_ret
          exact ⟨ret_int HR.out, HB.out⟩
        · have h4 : 255 < m := by omega
          clear hh
          go_wp2_with fail
          go_ret
          exact ⟨ret_int HR.out, HB.out⟩
  | true =>
    have hh := of_decide_eq_true HH.out.symm
    obtain ⟨⟨g1, g2⟩, g3, g4⟩ := hh
    have h1 : ¬ e < 0 := by omega
    have h2 : ¬ 30 < e := by omega
    have h3 : ¬ m < 0 := by omega
    have h4 : ¬ 255 < m := by omega
    clear HH g1 g2 g3 g4
    by_cases h5 : n ≤ M
    · have h5' : decide ((M : Int) < (n : Int)) = false := decide_eq_false (by omega)
      have h5n : decide (M < n) = false := decide_eq_false (by omega)
      rw [decide_eq_true h5] at HS
      clear h5
      cases N with
      | true =>
        have HR := Lib.hid (show (1 : Int) = R by rw [HS.out]; simp)
        clear HS
        go_wp2_with fail
        go_quiet (first | (go_at_call 17; exact quiet_ret (HM.out _)) | (go_at_call 18; exact quiet_ret (HNG.out _)))
        go_wp2_with fail
        go_ret
        exact ⟨ret_int HR.out, below_drewN HB.out _⟩
      | false =>
        by_cases h6 : e = 0
        · subst h6
          have HR := Lib.hid (show (0 : Int) = R by rw [HS.out]; simp)
          clear HS
          go_wp2_with fail
          go_quiet (first | (go_at_call 17; exact quiet_ret (HM.out _)) | (go_at_call 18; exact quiet_ret (HNG.out _)))
          go_wp2_with fail
          go_ret
          exact ⟨ret_int HR.out, below_drewN HB.out _⟩
        · have h6' : (e != 0) = true := by simpa using h6
          rw [decide_eq_false h6] at HS
          clear h6
          cases p with
          | true =>
            have HR := Lib.hid (show (1 : Int) = R by rw [HS.out]; simp)
            clear HS
            go_wp2_with fail
            go_quiet (first | (go_at_call 17; exact quiet_ret (HM.out _)) | (go_at_call 18; exact quiet_ret (HNG.out _)))
            go_wp2_with fail
            go_ret
            exact ⟨ret_int HR.out, below_drewN HB.out _⟩
          | false =>
            by_cases h7 : m = 0
            · subst h7
              have HR := Lib.hid (show (0 : Int) = R by rw [HS.out]; simp)
              clear HS
              go_wp2_with fail
              go_quiet (first | (go_at_call 17; exact quiet_ret (HM.out _)) | (go_at_call 18; exact quiet_ret (HNG.out _)))
              go_wp2_with fail
              go_ret
              exact ⟨ret_int HR.out, below_drewN HB.out _⟩
            · have h7' : (m != 0) = true := by simpa using h7
              have HR := Lib.hid (show (1 : Int) = R by rw [HS.out, decide_eq_false h7]; simp)
              clear HS h7
              go_wp2_with fail
              go_quiet (first | (go_at_call 17; exact quiet_ret (HM.out _)) | (go_at_call 18; exact quiet_ret (HNG.out _)))
              go_wp2_with fail
              go_ret
              exact ⟨ret_int HR.out, below_drewN HB.out _⟩
    · have h5' : decide ((M : Int) < (n : Int)) = true := decide_eq_true (by omega)
      have h5n : decide (M < n) = true := decide_eq_true (by omega)
      have HR := Lib.hid (show (1 : Int) = R by rw [HS.out, decide_eq_false h5]; simp)
      clear HS h5
      go_wp2_with fail
      go_quiet (first | (go_at_call 17; exact quiet_ret (HM.out _)) | (go_at_call 18; exact quiet_ret (HNG.out _)))
      go_wp2_with fail
      go_ret
      exact ⟨ret_int HR.out, below_drewN HB.out _⟩
end Go.Proofs.Ytkkaekcjinopkaa
