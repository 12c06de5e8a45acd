/-
  Numbers alone: how many bits are set, by adding fields side by side.
  Conditions: the number is below 2^64.
-/
import Derived.Test.YtpfpojehcjmfnaaGreatM01
import Derived.WalkKit
import Derived.WalkLawsBesides
import Derived.Below
import Derived.Lib.Hide
import Derived.Handy
import Derived.ProofKit
import Derived.Deep.LoopGhost
import Derived.Deep.QuietTactic
import Derived.BigQuiet
import Derived.IntWalk
import Derived.LoopTactic
import Derived.Laws.MakeOwn
import Derived.Laws.Rows
import Derived.OpenShut
import Derived.Laws.BitsAllLaws
import Derived.Shelf.RegionOpenPlain
import Derived.Shelf.SlSortCmp.QuietGrown
import Derived.OwnWalk

/-
  A slice that reads as a list of ints; what calls answer.
  Conditions: none.
-/
set_option linter.unusedVariables false
namespace Go.Proofs.YtpfpojehcjmfnaaGreat
open Go.RowKit

/-- The slice value 'v' reads as the numbers 'xs'; it lies in memory that is there. -/
def IntsAt (W : World) (v : Value) (xs : List Int) : Prop :=
  ∃ A c, v = .slice A xs.length c ∧ xs.length ≤ 9223372036854775807 ∧
    (0 < xs.length → ∃ b off, A = some ⟨b, off, none⟩ ∧ b < W.heap.size ∧ ∀ (j : Nat) (x : Int), xs[j]? = some x → W.cell? ⟨b, off + j, none⟩ = some (.int .i64 x))

theorem IntsAt.nil (W : World) : IntsAt W (.slice none 0 0) [] := ⟨none, 0, rfl, by decide, fun h => absurd h (by decide)⟩

end Go.Proofs.YtpfpojehcjmfnaaGreat

/-
  A row of ints that the call made: read, stored into, kept; a call in a region that draws.
  Conditions: none.
-/
set_option linter.unusedVariables false
namespace Go.Proofs.YtpfpojehcjmfnaaGreat
open Go.RowKit

/-- All 0. -/
def zeros (n : Nat) : List Int := List.replicate n 0

def rowOf (xs : List Int) : Array Value := (xs.map (Value.int .i64)).toArray
theorem madeCells_one (z : Value) (n : Nat) : madeCells #[z] n = (List.replicate n z).toArray := by
  apply Array.toList_inj.1
  rw [List.toList_toArray]
  apply List.ext_getElem?
  intro j
  by_cases hj : j < n
  · simp [madeCells, hj, Nat.mod_one]
  · simp [madeCells, hj]

/-- make([]int, n). -/
theorem mk_ints (W : World) (n : Nat) (h : n ≤ 1000) : (Instr.makeSlice 43 (.int .i64 (n : Int)) (.int .i64 (n : Int))).run Tryz.prog W = .ok (.slice (some ⟨W.heap.size, 0, none⟩) n n) (W.alloc (.cells (rowOf (zeros n)) 3)) := by
  obtain ⟨i, hi, e⟩ := Option.map_eq_some_iff.1 Tryz.infoInt
  simp only [Prod.mk.injEq] at e
  obtain ⟨e1, e2, e3⟩ := e
  have hr := run_make (P := Tryz.prog) W 43 3 i (.int .i64 0) Tryz.underlying43 hi e1 .i64 .i64 n n (by omega) (Int.le_refl _) (by rw [e3]; omega) (by omega)
  rw [hr, e2]
  simp only [Int.toNat_natCast, Nat.mul_one]
  rw [show (Value.int .i64 0).cells = #[.int .i64 0] from rfl, madeCells_one]
  simp [rowOf, zeros]

theorem quiet_ret {P : Program} {f : FuncId} {args : Array Value} {w : World} {n : Nat} {v : Value} (h : Calls P f args (w.drewN n) (Ret v (w.drewN n))) :
    Calls P f args (w.drewN n) fun e w'' => e = .returned v ∧ ∃ m, w'' = w.drewN m := h.mono fun _ _ ⟨he, hm⟩ => ⟨he, n, hm.symm⟩

end Go.Proofs.YtpfpojehcjmfnaaGreat

/-
  The plain answers about a frame and a tick: length, Frame, All, inRange, Has, With.
  Conditions: the numbers are of their kinds.
-/
set_option linter.unusedVariables false
namespace Go.Proofs.YtpfpojehcjmfnaaGreat
open Go.RowKit

/-- How many ticks a frame has. -/
def frN (f : Int) : Nat := (min (max f 0) 64).toNat
theorem frN_le (f : Int) : frN f ≤ 64 := by unfold frN; omega

set_option maxHeartbeats 1000000 in
theorem length_any (f : Int) (w : World) : Calls Tryz.prog 194 #[.int .i64 f] w (Ret (.int .i64 (frN f)) w) := by
  go_enter Tryz.func194, Tryz.ntmps194
  go_wp2
  all_goals
    go_ret
    exact ⟨ret_int (by unfold frN; omega), rfl⟩

theorem pow_cast (k : Nat) : ((2 : Int) ^ k) = ((2 ^ k : Nat) : Int) := by simp
theorem all_word (k : Nat) (hk : k ≤ 64) : IntKind.u64.wrap (IntKind.u64.wrap (2 ^ k) - 1) = (allN k : Int) := by
  rw [pow_cast]
  unfold allN
  have h2 : 0 < 2 ^ k := Nat.two_pow_pos k
  rcases Nat.lt_or_ge k 64 with h | h
  · have h1 := pow_lt64 h
    generalize 2 ^ k = K at *
    rw [IntKind.wrap_u64, IntKind.wrap_u64]
    omega
  · have : k = 64 := by omega
    subst this
    rfl

set_option maxHeartbeats 1000000 in
theorem all_any (f : Int) (w : World) : Calls Tryz.prog 173 #[.int .i64 f] w (Ret (.int .u64 (allN (frN f))) w) := by
  have HL := Lib.hid (fun W => length_any f W)
  have hk := frN_le f
  generalize frN f = k at *
  go_enter Tryz.func173, Tryz.ntmps173
  go_wp2_with (go_at_call 194; refine (HL.out _).mono ?_; rintro e w' ⟨rfl, rfl⟩)
  go_ret
  exact ⟨ret_int (all_word k hk), rfl⟩

set_option maxHeartbeats 1000000 in
theorem inRange_any (t : Int) (w : World) : Calls Tryz.prog 176 #[.int .i64 t] w (Ret (.bool (decide (0 ≤ t ∧ t < 64))) w) := by
  by_cases h0 : 0 ≤ t
  · by_cases h1 : t < 64
    · have e : decide (0 ≤ t ∧ t < 64) = true := decide_eq_true ⟨h0, h1⟩
      rw [e]
      go_enter Tryz.func176, Tryz.ntmps176
      go_wp2
      go_ret
      exact ⟨rfl, rfl⟩
    · have e : decide (0 ≤ t ∧ t < 64) = false := decide_eq_false (fun h => h1 h.2)
      have h1' : decide (t < 64) = false := decide_eq_false h1
      rw [e]
      clear e
      go_enter Tryz.func176, Tryz.ntmps176
      go_wp2
      go_ret
      exact ⟨rfl, rfl⟩
  · have e : decide (0 ≤ t ∧ t < 64) = false := decide_eq_false (fun h => h0 h.1)
    have h1' : decide (0 ≤ t) = false := decide_eq_false h0
    rw [e]
    clear e
    go_enter Tryz.func176, Tryz.ntmps176
    go_wp2
    go_ret
    exact ⟨rfl, rfl⟩

def hasB (m : Nat) (t : Int) : Bool := decide (0 ≤ t ∧ t < 64) && m.testBit t.toNat
theorem hasB_nat {m t : Nat} (h : t < 64) : hasB m (t : Int) = m.testBit t := by
  unfold hasB
  have : decide ((0 : Int) ≤ (t : Int) ∧ (t : Int) < 64) = true := decide_eq_true ⟨by omega, by omega⟩
  rw [this, Int.toNat_natCast]
  rfl
theorem hasB_out {m : Nat} {t : Int} (h : ¬ (0 ≤ t ∧ t < 64)) : hasB m t = false := by
  unfold hasB
  rw [decide_eq_false h]
  rfl

theorem shr_bit (m t : Nat) (hm : m < 18446744073709551616) : bits BinOp.and IntKind.u64 ((m : Int) / 2 ^ t) 1 = ((m.testBit t).toNat : Int) := by
  have e1 := bits_and_u64_nat (m / 2 ^ t) 1 (Nat.lt_of_le_of_lt (Nat.div_le_self _ _) hm) (by decide)
  rw [show ((m : Int) / 2 ^ t) = ((m / 2 ^ t : Nat) : Int) by simp]
  rw [show ((1 : Nat) : Int) = 1 from rfl] at e1
  rw [e1, Nat.and_one_is_mod, Nat.testBit_eq_decide_div_mod_eq]
  rcases Nat.mod_two_eq_zero_or_one (m / 2 ^ t) with h | h <;> simp [h]
theorem shr_mod (m t : Nat) : ((m : Int) / 2 ^ t).tmod 2 = ((m.testBit t).toNat : Int) := by
  rw [Int.tmod_eq_emod_of_nonneg (by rw [show ((m : Int) / 2 ^ t) = ((m / 2 ^ t : Nat) : Int) by simp]; exact Int.natCast_nonneg _)]
  rw [show ((m : Int) / 2 ^ t % 2) = ((m / 2 ^ t % 2 : Nat) : Int) by simp, Nat.testBit_eq_decide_div_mod_eq]
  rcases Nat.mod_two_eq_zero_or_one (m / 2 ^ t) with h | h <;> simp [h]

set_option maxHeartbeats 1000000 in
theorem has_any (m : Nat) (t : Int) (w : World) (hm : m < 18446744073709551616) : Calls Tryz.prog 146 #[.int .u64 m, .int .i64 t] w (Ret (.bool (hasB m t)) w) := by
  have HR := Lib.hid (inRange_any t w)
  by_cases h : 0 ≤ t ∧ t < 64
  · obtain ⟨T, rfl⟩ := Int.eq_ofNat_of_zero_le h.1
    have hT : T < 64 := by omega
    rw [hasB_nat hT]
    rw [decide_eq_true h] at HR
    have e := shr_bit m T hm
    generalize m.testBit T = b at *
    clear h
    cases b
    all_goals
      simp only [Bool.toNat_true, Bool.toNat_false] at e
      go_enter Tryz.func146, Tryz.ntmps146
      go_wp2_with (go_at_call 176; refine HR.out.mono ?_; rintro e w' ⟨rfl, rfl⟩)
      go_ret
      exact ⟨rfl, rfl⟩
  · rw [hasB_out h]
    rw [decide_eq_false h] at HR
    clear h
    go_enter Tryz.func146, Tryz.ntmps146
    go_wp2_with (go_at_call 176; refine HR.out.mono ?_; rintro e w' ⟨rfl, rfl⟩)
    go_ret
    exact ⟨rfl, rfl⟩

set_option maxHeartbeats 1000000 in
theorem refHas_any (m : Nat) (t : Int) (w : World) (hm : m < 18446744073709551616) : Calls Tryz.prog 95 #[.int .u64 m, .int .i64 t] w (Ret (.bool (hasB m t)) w) := by
  by_cases h : 0 ≤ t ∧ t < 64
  · obtain ⟨T, rfl⟩ := Int.eq_ofNat_of_zero_le h.1
    have hT : T < 64 := by omega
    rw [hasB_nat hT]
    have e := shr_mod m T
    generalize m.testBit T = b at *
    clear h
    cases b
    all_goals
      simp only [Bool.toNat_true, Bool.toNat_false] at e
      go_enter Tryz.func95, Tryz.ntmps95
      go_wp2
      go_ret
      exact ⟨rfl, rfl⟩
  · rw [hasB_out h]
    by_cases h0 : t < 0
    · clear h
      go_enter Tryz.func95, Tryz.ntmps95
      go_wp2
      go_ret
      exact ⟨rfl, rfl⟩
    · have h1 : decide (63 < t) = true := decide_eq_true (by omega)
      have h1' : decide (t > 63) = true := decide_eq_true (by omega)
      have h2 : 63 < t := by omega
      clear h
      go_enter Tryz.func95, Tryz.ntmps95
      go_wp2
      go_ret
      exact ⟨rfl, rfl⟩

/-- What With answers. -/
def withI (m : Nat) (t : Int) : Nat := if 0 ≤ t ∧ t < 64 then withN m t.toNat else m
theorem withI_nat {m t : Nat} (h : t < 64) : withI m (t : Int) = withN m t := by
  unfold withI
  rw [if_pos ⟨by omega, by omega⟩, Int.toNat_natCast]
theorem withI_out {m : Nat} {t : Int} (h : ¬ (0 ≤ t ∧ t < 64)) : withI m t = m := by
  unfold withI
  rw [if_neg h]
theorem add_word {m t : Nat} (hm : m < 18446744073709551616) (ht : t < 64) (h : m.testBit t = false) : IntKind.u64.wrap ((m : Int) + IntKind.u64.wrap (2 ^ t)) = (withN m t : Int) := by
  have e := add_pow h
  have h1 := withN_lt hm ht
  have h2 := pow_lt64 ht
  rw [← e] at h1 ⊢
  rw [pow_cast]
  generalize 2 ^ t = K at *
  rw [IntKind.wrap_u64, IntKind.wrap_u64]
  omega
set_option maxHeartbeats 1000000 in
theorem with_any (m : Nat) (t : Int) (w : World) (hm : m < 18446744073709551616) : Calls Tryz.prog 90 #[.int .u64 m, .int .i64 t] w (Ret (.int .u64 (withI m t)) w) := by
  have HH := Lib.hid (refHas_any m t w hm)
  by_cases h : 0 ≤ t ∧ t < 64
  · obtain ⟨T, rfl⟩ := Int.eq_ofNat_of_zero_le h.1
    have hT : T < 64 := by omega
    rw [withI_nat hT]
    rw [hasB_nat hT] at HH
    cases hb : m.testBit T
    · rw [hb] at HH
      have e := add_word hm hT hb
      generalize withN m T = M at *
      have h1 : decide ((T : Int) < 0) = false := decide_eq_false (by omega)
      have h2 : decide ((63 : Int) < (T : Int)) = false := decide_eq_false (by omega)
      clear h hb
      go_enter Tryz.func90, Tryz.ntmps90
      go_wp2_with (go_at_call 95; refine HH.out.mono ?_; rintro e w' ⟨rfl, rfl⟩)
      go_ret
      exact ⟨rfl, rfl⟩
    · rw [hb] at HH
      rw [withN_of hb]
      clear h hb
      go_enter Tryz.func90, Tryz.ntmps90
      go_wp2_with (go_at_call 95; refine HH.out.mono ?_; rintro e w' ⟨rfl, rfl⟩)
      go_ret
      exact ⟨rfl, rfl⟩
  · rw [withI_out h]
    rw [hasB_out h] at HH
    by_cases h0 : t < 0
    · clear h
      go_enter Tryz.func90, Tryz.ntmps90
      go_wp2_with (go_at_call 95; refine HH.out.mono ?_; rintro e w' ⟨rfl, rfl⟩)
      go_ret
      exact ⟨rfl, rfl⟩
    · have h1 : decide (63 < t) = true := decide_eq_true (by omega)
      have h2 : 63 < t := by omega
      have h3 : decide (t < 0) = false := decide_eq_false h0
      clear h
      go_enter Tryz.func90, Tryz.ntmps90
      go_wp2_with (go_at_call 95; refine HH.out.mono ?_; rintro e w' ⟨rfl, rfl⟩)
      go_ret
      exact ⟨rfl, rfl⟩

/-- What a division by the frame, rounded down, leaves. -/
def modN (n : Int) (f : Nat) : Nat := (n % (f : Int)).toNat
theorem modN_cast {n : Int} {f : Nat} (h : 0 < f) : (modN n f : Int) = n % (f : Int) := by
  unfold modN
  exact Int.toNat_of_nonneg (Int.emod_nonneg _ (by omega))
theorem modN_lt {n : Int} {f : Nat} (h : 0 < f) : modN n f < f := by
  have h1 := modN_cast (n := n) h
  have := Int.emod_lt_of_pos n (show (0 : Int) < (f : Int) by omega)
  omega
theorem tmod_cases (n : Int) {f : Nat} (h : 0 < f) : (0 ≤ n.tmod f ∧ n.tmod f = modN n f) ∨ (n.tmod f < 0 ∧ n.tmod f + f = modN n f) := by
  rw [modN_cast h]
  rw [Int.tmod_eq_emod]
  by_cases h0 : 0 ≤ n ∨ (f : Int) ∣ n
  · rw [if_pos h0]
    left
    have := Int.emod_nonneg n (show (f : Int) ≠ 0 by omega)
    omega
  · rw [if_neg h0]
    right
    have := Int.emod_lt_of_pos n (show (0 : Int) < (f : Int) by omega)
    simp
    omega
theorem tmod_bound (n : Int) {f : Nat} (h : 0 < f) (hf : f ≤ 64) : -64 ≤ n.tmod f ∧ n.tmod f < 64 := by
  have := modN_lt (n := n) h
  rcases tmod_cases n h with h1 | h1 <;> omega

theorem wrap64_small4 {n : Int} (h : -4611686018427387904 ≤ n) (h1 : n ≤ 4611686018427387904) : wrap64 n = n := by
  unfold wrap64
  omega
theorem modulo_word (n : Int) (f : Nat) (h0 : 0 < f) (hf : f ≤ 64) : (wrap64 (n.tmod f + f)).tmod f = modN n f := by
  have hc := tmod_cases n h0
  have hb := tmod_bound n h0 hf
  have hl := modN_lt (n := n) h0
  generalize n.tmod f = r at *
  rw [wrap64_small4 (by omega) (by omega), Int.tmod_eq_emod_of_nonneg (by omega)]
  rcases hc with ⟨h1, h2⟩ | ⟨h1, h2⟩
  · rw [Int.add_emod_right, Int.emod_eq_of_lt (by omega) (by omega)]; omega
  · rw [Int.emod_eq_of_lt (by omega) (by omega)]; omega

/-- A tick, so much later, round. -/
def laterN (f l i : Nat) : Nat := (i + l) % f
end Go.Proofs.YtpfpojehcjmfnaaGreat

/-
  slices.IndexFunc, slices.ContainsFunc over spans.
  Conditions: the predicate, whatever the world, answers so, and leaves all that was.
-/
set_option linter.unusedVariables false
namespace Go.Proofs.YtpfpojehcjmfnaaGreat
open Go.RowKit

/-- A predicate that may make memory. -/
def PredS (g : Nat) (lb : Array Value) (p : Sp → Bool) (w : World) : Prop :=
  ∀ (W : World) (x : Sp), Below w.heap.size w W → Calls Tryz.prog g (#[.agg #[.int .i64 x.1, .int .i64 x.2]] ++ lb) W (RetB (.bool (p x)) W)
/-- The first at which it holds, or -1. -/
def FirstOf (p : Sp → Bool) (ps : List Sp) (r : Int) : Prop :=
  (r = -1 ∧ ∀ s ∈ ps, p s = false) ∨ ∃ (k : Nat) (s : Sp), r = k ∧ ps[k]? = some s ∧ p s = true ∧ ∀ (j : Nat) (t : Sp), j < k → ps[j]? = some t → p t = false
theorem FirstOf.any {p : Sp → Bool} {ps : List Sp} {r : Int} (h : FirstOf p ps r) : decide (r ≥ 0) = ps.any p := by
  rcases h with ⟨rfl, h⟩ | ⟨k, s, rfl, hk, hp, _⟩
  · have : ps.any p = false := by
      rw [List.any_eq_false]
      intro x hx
      rw [h x hx]; simp
    rw [this]; rfl
  · have : ps.any p = true := List.any_eq_true.2 ⟨s, List.mem_of_getElem? hk, hp⟩
    rw [this]; simp

set_option maxRecDepth 100000 in
set_option maxHeartbeats 2000000 in
theorem index_any (g : Nat) (lb : Array Value) (eg : ∀ args w, (callFunc g args).run Tryz.prog w = .ok (.enter g args) w) (p : Sp → Bool) (v : Value) (ps : List Sp) (w : World) (hp : PredS g lb p w) (h : SpansAt w v ps) :
    Calls Tryz.prog 174 #[v, .func (.func g) #[] lb] w (fun e w' => ∃ r, e = .returned (.int .i64 r) ∧ FirstOf p ps r ∧ Below w.heap.size w w') := by
  obtain ⟨A, c, rfl, hc1, hlen, hc2, hat⟩ := h
  have HAT := Lib.hid hat
  have HP := Lib.hid hp
  generalize hn : ps.length = n at *
  have HN := Lib.hid hn
  clear hat hp hn
  go_enter Tryz.func174, Tryz.ntmps174
  go_wp2
  go_loopg [5, 8] n (fun gg _ s8 wr => ∃ kk : Nat, kk ≤ n ∧ gg = n - kk ∧ s8 = .int .i64 kk ∧ Below w.heap.size w wr ∧ ∀ (j : Nat) (t : Sp), j < kk → ps[j]? = some t → p t = false)
  case atStart => exact ⟨0, Nat.zero_le _, by omega, rfl, Below.refl _ w, fun j t hj => absurd hj (Nat.not_lt_zero _)⟩
  case round =>
    obtain ⟨k, hk, hg, rfl, hbw, hall⟩ := hrel
    have HB := Lib.hid hbw
    have HALL := Lib.hid hall
    have HG := Lib.hid hg
    clear hbw hall hg
    by_cases hlt : k < n
    · have hltz : (k : Int) < (n : Int) := by omega
      obtain ⟨b, off, hA, hbl, hcell⟩ := HAT.out (by omega)
      subst hA
      obtain ⟨y, hy⟩ := ex_at (xs := ps) (k := k) (by rw [HN.out]; exact hlt)
      obtain ⟨hc1', hc2'⟩ := (hcell k y hy).keep HB.out hbl
      have hcall := HP.out wr y HB.out
      have HY := Lib.hid hy
      clear hcell hy
      cases hq : p y with
      | true =>
        rw [hq] at hcall
        have HC := Lib.hid hcall
        have HQ := Lib.hid hq
        clear hcall hq
        obtain ⟨y1, y2⟩ := y
        simp only at hc1' hc2'
        go_wp2_with (go_at_fn g; refine HC.out.mono ?_; rintro e w' ⟨rfl, hb'⟩)
        go_ret
        exact ⟨k, rfl, .inr ⟨k, _, rfl, HY.out, HQ.out, HALL.out⟩, HB.out.trans (hb'.mono HB.out.size)⟩
      | false =>
        rw [hq] at hcall
        have HC := Lib.hid hcall
        have HQ := Lib.hid hq
        clear hcall hq
        obtain ⟨y1, y2⟩ := y
        simp only at hc1' hc2'
        go_wp2_with (go_at_fn g; refine HC.out.mono ?_; rintro e w' ⟨rfl, hb'⟩)
        go_roundg (n - (k + 1))
        case measure => have := HG.out; omega
        case rel =>
          refine ⟨k + 1, by omega, rfl, by go_num, HB.out.trans (hb'.mono HB.out.size), fun j t hj ht => ?_⟩
          by_cases e : j = k
          · subst e
            have := HY.out
            rw [this] at ht
            rw [← Option.some.inj ht]
            exact HQ.out
          · exact HALL.out j t (by omega) ht
    · have hltz : ¬ (k : Int) < (n : Int) := by omega
      go_wp2
      go_ret
      refine ⟨-1, rfl, .inl ⟨rfl, fun s hs => ?_⟩, HB.out⟩
      obtain ⟨j, hj, e⟩ := List.getElem_of_mem hs
      exact HALL.out j s (by have := HN.out; omega) (by rw [List.getElem?_eq_getElem hj, e])

theorem contains_any (g : Nat) (lb : Array Value) (eg : ∀ args w, (callFunc g args).run Tryz.prog w = .ok (.enter g args) w) (p : Sp → Bool) (v : Value) (ps : List Sp) (w : World) (hp : PredS g lb p w) (h : SpansAt w v ps) :
    Calls Tryz.prog 138 #[v, .func (.func g) #[] lb] w (RetB (.bool (ps.any p)) w) := by
  have HC := Lib.hid (index_any g lb eg p v ps w hp h)
  clear hp h
  go_enter Tryz.func138, Tryz.ntmps138
  go_wp2_with (go_at_call 174; refine HC.out.mono ?_; rintro e w' ⟨r, rfl, hr, hb⟩)
  all_goals go_ret
  all_goals (refine ⟨?_, hb⟩; rw [← hr.any]; simp_all)
end Go.Proofs.YtpfpojehcjmfnaaGreat

/-
  cmp.Compare, cmp.Or, the program's compare and Ahead, the document's Ahead.
  Conditions: none.
-/
set_option linter.unusedVariables false
namespace Go.Proofs.YtpfpojehcjmfnaaGreat
open Go.RowKit Go.Sort

def cmpI (p q : Int) : Int := if p < q then -1 else if q < p then 1 else 0

theorem isNaN_any (a : Int) (w : World) : Calls Tryz.prog 110 #[.int .i64 a] w (Ret (.bool false) w) := by
  have h : (a != a) = false := by simp
  go_enter Tryz.func110, Tryz.ntmps110
  go_wp2
  go_ret
  exact ⟨rfl, rfl⟩

theorem compareInt_any (p q : Int) (w : World) : Calls Tryz.prog 62 #[.int .i64 p, .int .i64 q] w (Ret (.int .i64 (cmpI p q)) w) := by
  by_cases h1 : p < q
  · have e : Hid (cmpI p q = -1) := by show _ = _; unfold cmpI; rw [if_pos h1]
    go_enter Tryz.func62, Tryz.ntmps62
    go_wp2_with (go_at_call 110; refine (isNaN_any _ _).mono ?_; rintro e w' ⟨rfl, rfl⟩)
    go_ret
    exact ⟨ret_int e.out.symm, rfl⟩
  · have h1' : q ≤ p := by omega
    by_cases h2 : q < p
    · have e : Hid (cmpI p q = 1) := by show _ = _; unfold cmpI; rw [if_neg h1, if_pos h2]
      clear h1
      go_enter Tryz.func62, Tryz.ntmps62
      go_wp2_with (go_at_call 110; refine (isNaN_any _ _).mono ?_; rintro e w' ⟨rfl, rfl⟩)
      go_ret
      exact ⟨ret_int e.out.symm, rfl⟩
    · have h2' : p ≤ q := by omega
      have e : Hid (cmpI p q = 0) := by show _ = _; unfold cmpI; rw [if_neg h1, if_neg h2]
      clear h1 h2
      go_enter Tryz.func62, Tryz.ntmps62
      go_wp2_with (go_at_call 110; refine (isNaN_any _ _).mono ?_; rintro e w' ⟨rfl, rfl⟩)
      go_ret
      exact ⟨ret_int e.out.symm, rfl⟩

end Go.Proofs.YtpfpojehcjmfnaaGreat

/-
  Has of the document, hasCore, isWhole, wantOf, compareUnits of the program.
  Conditions: the numbers are of their kinds.
-/
set_option linter.unusedVariables false
namespace Go.Proofs.YtpfpojehcjmfnaaGreat
open Go.RowKit Go.Sort

theorem hasB_core {m : Nat} {c : Int} (h : 0 ≤ c ∧ c < 16) : hasB m c = hasC m c := by
  obtain ⟨C, rfl⟩ := Int.eq_ofNat_of_zero_le h.1
  rw [hasB_nat (by omega), hasC_nat (by omega)]
theorem conv32 (m : Nat) (hm : m < 4294967296) : IntKind.u64.wrap (m : Int) = (m : Int) := by rw [IntKind.wrap_u64]; omega

set_option maxHeartbeats 1000000 in
theorem refHasC_any (f : Int) (m : Nat) (v : Value) (c : Int) (w : World) (hm : m < 4294967296) :
    Calls Tryz.prog 50 #[planA f m v, .int .i64 c] w (RetB (.bool (hasC m c)) w) := by
  have hconv := conv32 m hm
  obtain ⟨w1, P, hw1, hP, hPl, hb1, hbox⟩ := box_any w #[.int .i64 f, .int .u32 m, v] 26
  have HB1 := Lib.hid hb1
  obtain ⟨r0, r1, r2⟩ := three_heads hbox
  clear hb1 hbox
  unfold planA
  by_cases h0 : 0 ≤ c
  · by_cases h1 : c ≤ 15
    · have HH := Lib.hid (fun W => refHas_any m c W (by omega))
      rw [hasB_core ⟨h0, by omega⟩] at HH
      generalize hasC m c = r at *
      go_enter Tryz.func50, Tryz.ntmps50
      go_wp2_with (go_at_call 95; refine (HH.out _).mono ?_; rintro e w' ⟨rfl, rfl⟩)
      go_ret
      exact ⟨rfl, HB1.out⟩
    · rw [hasC_out (by omega)]
      have h1' : decide (c ≤ 15) = false := decide_eq_false h1
      go_enter Tryz.func50, Tryz.ntmps50
      go_wp2
      go_ret
      exact ⟨rfl, HB1.out⟩
  · rw [hasC_out (by omega)]
    have h0' : decide (0 ≤ c) = false := decide_eq_false h0
    go_enter Tryz.func50, Tryz.ntmps50
    go_wp2
    go_ret
    exact ⟨rfl, HB1.out⟩

set_option maxHeartbeats 1000000 in
theorem hasCore_any (f : Int) (m : Nat) (v : Value) (c : Int) (w : World) (hm : m < 4294967296) :
    Calls Tryz.prog 102 #[planA f m v, .int .i64 c] w (RetB (.bool (hasC m c)) w) := by
  have hconv := conv32 m hm
  obtain ⟨w1, P, hw1, hP, hPl, hb1, hbox⟩ := box_any w #[.int .i64 f, .int .u32 m, v] 26
  have HB1 := Lib.hid hb1
  obtain ⟨r0, r1, r2⟩ := three_heads hbox
  clear hb1 hbox
  unfold planA
  by_cases h1 : c < 16
  · have HH := Lib.hid (fun W => has_any m c W (by omega))
    have e : hasB m c = hasC m c := by
      by_cases h0 : 0 ≤ c
      · exact hasB_core ⟨h0, h1⟩
      · rw [hasB_out (by omega), hasC_out (by omega)]
    rw [e] at HH
    generalize hasC m c = r at *
    go_enter Tryz.func102, Tryz.ntmps102
    go_wp2_with (go_at_call 146; refine (HH.out _).mono ?_; rintro e w' ⟨rfl, rfl⟩)
    go_ret
    exact ⟨rfl, HB1.out⟩
  · rw [hasC_out (by omega)]
    have h1' : decide (c < 16) = false := decide_eq_false h1
    go_enter Tryz.func102, Tryz.ntmps102
    go_wp2
    go_ret
    exact ⟨rfl, HB1.out⟩

set_option maxHeartbeats 1000000 in
theorem isWhole_any (F : Nat → Prop) (A : Option Addr) (n d : Nat) (x : Pl) (w : World) :
    Calls Tryz.prog 104 #[plA (.slice A n d) x] w (RetB (.bool (decide (n = 0))) w) := by
  obtain ⟨w1, P, hw1, hP, hPl, hb1, hbox⟩ := box_any w #[.int .i64 x.u, .int .i64 x.s, .int .i64 x.c, .slice A n d] 48
  have HB1 := Lib.hid hb1
  obtain ⟨r0, r1, r2, r3⟩ := four_heads hbox
  clear hb1 hbox
  unfold plA
  cases hn : decide (n = 0) with
  | true =>
    have hz : ((n : Int) == 0) = true := by have := of_decide_eq_true hn; subst this; rfl
    clear hn
    go_enter Tryz.func104, Tryz.ntmps104
    go_wp2
    go_ret
    exact ⟨rfl, HB1.out⟩
  | false =>
    have hz : ((n : Int) == 0) = false := by have := of_decide_eq_false hn; simpa using this
    clear hn
    go_enter Tryz.func104, Tryz.ntmps104
    go_wp2
    go_ret
    exact ⟨rfl, HB1.out⟩

set_option maxHeartbeats 1000000 in
theorem compareUnits_any (v v' : Value) (x y : Pl) (w : World) :
    Calls Tryz.prog 129 #[plA v x, plA v' y] w (RetB (.int .i64 (cmpI x.u y.u)) w) := by
  obtain ⟨w1, P, hw1, hP, hPl, hb1, hbox⟩ := box_any w #[.int .i64 x.u, .int .i64 x.s, .int .i64 x.c, v] 48
  obtain ⟨w2, Q, hw2, hQ, hQl, hb2, hbox2⟩ := box_any w1 #[.int .i64 y.u, .int .i64 y.s, .int .i64 y.c, v'] 48
  have HB1 := Lib.hid (hb1.trans (hb2.mono hb1.size))
  obtain ⟨r0, _, _, _⟩ := four_heads (keep_block hbox hb2)
  obtain ⟨q0, _, _, _⟩ := four_heads hbox2
  have HC := Lib.hid (fun W => compareInt_any x.u y.u W)
  generalize cmpI x.u y.u = r at *
  clear hb1 hbox hb2 hbox2
  unfold plA
  go_enter Tryz.func129, Tryz.ntmps129
  go_wp2_with (go_at_call 62; refine (HC.out _).mono ?_; rintro e w' ⟨rfl, rfl⟩)
  go_ret
  exact ⟨rfl, HB1.out⟩

set_option maxHeartbeats 1000000 in
theorem wantOf_any (v : Value) (x : Pl) (w : World) :
    Calls Tryz.prog 100 #[plA v x] w (RetB (.agg #[.int .i64 x.u, .int .i64 x.s]) w) := by
  obtain ⟨w1, P, hw1, hP, hPl, hb1, hbox⟩ := box_any w #[.int .i64 x.u, .int .i64 x.s, .int .i64 x.c, v] 48
  obtain ⟨r0, r1, r2, r3⟩ := four_heads hbox
  have HB1 := Lib.hid hb1
  clear hb1 hbox
  unfold plA
  go_enter Tryz.func100, Tryz.ntmps100
  go_wp2_with fail
  refine bodyPost_ret (v := .agg #[.int .i64 x.u, .int .i64 x.s]) (results_cell_row rfl _ _ w1.heap.size _ _ _ _ rfl (heap_alloc_new w1 _) Tryz.underlying52 rfl (Tryz.sizeWt _ _)) rfl ?_
  exact ⟨rfl, HB1.out.trans ((Below.refl _ w1).alloc HB1.out.size _)⟩
end Go.Proofs.YtpfpojehcjmfnaaGreat

/-
  Ticks of a set as a list: the program's and the document's, and the document's Count.
  Conditions: the numbers are of their kinds.
-/
set_option linter.unusedVariables false
namespace Go.Proofs.YtpfpojehcjmfnaaGreat
open Go.RowKit

/-- The ticks below k, as ints. -/
def ticksI (m k : Nat) : List Int := (ticksT m k).map (fun t : Nat => (t : Int))
theorem ticksI_length (m k : Nat) : (ticksI m k).length = cntT m k := by unfold ticksI cntT; rw [List.length_map]
theorem ticksI_yes {m k : Nat} (h : m.testBit k = true) : ticksI m (k + 1) = ticksI m k ++ [(k : Int)] := by
  unfold ticksI
  rw [ticksT_succ, if_pos h, List.map_append]
  rfl
theorem ticksI_no {m k : Nat} (h : m.testBit k = false) : ticksI m (k + 1) = ticksI m k := by
  unfold ticksI
  rw [ticksT_succ, if_neg (by rw [h]; simp)]
/-- A list that a call answers. -/
def RetL (xs : List Int) (w : World) (e : Ending) (w' : World) : Prop := ∃ v, e = .returned v ∧ IntsAt w' v xs ∧ Below w.heap.size w w'

theorem ints_of_own {W : World} {base : Nat} {v : Value} {xs : List Int} (h : W.ownsRow base 3 1 v xs.length (xs.map (Value.int .i64))) (hl : xs.length ≤ 9223372036854775807) : IntsAt W v xs := by
  obtain ⟨h1, h2⟩ := h
  rcases h2 with ⟨rfl, h0⟩ | ⟨g, cap, cur, rfl, hg, hh, hn, hc, hs, ht⟩
  · have : xs = [] := List.eq_nil_of_length_eq_zero h0
    subst this
    exact IntsAt.nil W
  · refine ⟨_, _, rfl, hl, fun _ => ⟨g, 0, rfl, ?_, fun j x hx => ?_⟩⟩
    · rcases Nat.lt_or_ge g W.heap.size with h' | h'
      · exact h'
      · rw [Array.getElem?_eq_none h'] at hh; cases hh
    · rw [Nat.zero_add, cell_of_row W g j _ _ (0, 0) hh]
      have hj : j < xs.length := (List.getElem?_eq_some_iff.1 hx).1
      have : (cur.toList.take (xs.length * 1))[j]? = some (.int .i64 x) := by rw [ht, List.getElem?_map, hx]; rfl
      rw [List.getElem?_take, if_pos (by omega)] at this
      rw [← this]
      simp

theorem below_grown4 {w w' : World} {row : Option Nat} {B : Nat} (hg : w.grownBy w' row) (hB : B ≤ w.heap.size) (hr : ∀ k, row = some k → B ≤ k) : Below B w w' := (Below.refl B w).grown hg hB hr
theorem own_base4 {w : World} {base e size n : Nat} {v : Value} {xs : List Value} (h : w.ownsRow base e size v n xs) : ∀ k, v.ownBlock = some k → base ≤ k := by
  intro k hk
  rcases h.2 with ⟨h1, _⟩ | ⟨g, cap, cur, h1, h2, _⟩
  · subst h1; cases hk
  · subst h1; cases hk; exact h2

def TicksRel (m : Nat) (w : World) (g : Nat) (s i : Value) (wr : World) : Prop :=
  ∃ k : Nat, k ≤ 64 ∧ g = 64 - k ∧ i = .int .i64 k ∧ Below w.heap.size w wr ∧ wr.ownsRow w.heap.size 3 1 s (ticksI m k).length ((ticksI m k).map (Value.int .i64))

set_option maxRecDepth 100000 in
set_option maxHeartbeats 1000000 in
theorem ticks_any (m : Nat) (w : World) (hm : m < 18446744073709551616) (HC : ∀ W, Calls Tryz.prog 103 #[.int .u64 m] W (Ret (.int .i64 (cnt m)) W)) :
    Calls Tryz.prog 106 #[.int .u64 m] w (RetL (ticksI m 64) w) := by
  obtain ⟨i0, hi, hz0, hz1, hz2⟩ := info_parts Tryz.infoInt
  have HCC := Lib.hid HC
  have hc64 := cnt_le m
  generalize cnt m = c at *
  clear HC
  go_enter Tryz.func106, Tryz.ntmps106
  go_wp2_with (first
    | (go_at_call 103; refine (HCC.out _).mono ?_; rintro e w' ⟨rfl, rfl⟩)
    | (at_make; refine wpList_make_own _ rfl _ _ 43 rfl w.heap.size 3 i0 (.int .i64 0) 1 Tryz.underlying43 hi hz0 hz1 _ _ _ c rfl rfl rfl (by rw [hz2]; omega) (by unfold maxLen; omega) (Nat.le_refl _) ?_; intro w1 hown1 hgrow1))
  have HB0 := Lib.hid (below_grown4 hgrow1 (Nat.le_refl _) (fun k h => by cases h))
  have HO0 := Lib.hid hown1
  clear hown1 hgrow1
  go_loopg [3, 8] 64 (fun g s i wr => TicksRel m w g s i wr)
  case atStart => exact ⟨0, Nat.zero_le _, rfl, rfl, HB0.out, HO0.out⟩
  case round =>
    obtain ⟨k, hk, hg, rfl, hbr, hown⟩ := hrel
    have HG := Lib.hid hg
    have HB := Lib.hid hbr
    have HO := Lib.hid hown
    clear hg hbr hown
    by_cases hlt : k < 64
    · have HH := Lib.hid (fun W => has_any m (k : Int) W hm)
      rw [hasB_nat hlt] at HH
      have hlen : cntT m k ≤ k := cntT_le m k
      rw [ticksI_length] at HO
      generalize hn : cntT m k = n at *
      have HN := Lib.hid hn
      clear hn
      cases hb : m.testBit k
      · have HE := Lib.hid (ticksI_no hb)
        rw [hb] at HH
        clear hb
        go_wp2_with (go_at_call 146; refine (HH.out _).mono ?_; rintro e w' ⟨rfl, rfl⟩)
        go_roundg (64 - (k + 1))
        case measure => have := HG.out; omega
        case rel => exact ⟨k + 1, by omega, rfl, by go_num, HB.out, by rw [HE.out, ticksI_length, HN.out]; exact HO.out⟩
      · have HE := Lib.hid (ticksI_yes hb)
        rw [hb] at HH
        clear hb
        have hsz := HB.out.size
        go_wp2_with (first
          | (go_at_call 146; refine (HH.out _).mono ?_; rintro e w' ⟨rfl, rfl⟩)
          | (at_builtin; refine wpList_append_own _ rfl _ _ 43 rfl w.heap.size 3 i0 (.int .i64 0) 1 8 Tryz.underlying43 hi hz0 hz1 hz2 rfl (by decide) _ _ _ rfl (HO.out.alloc _) ⟨wr.heap.size, 0, none⟩ 1 1 [.int .i64 k] rfl rfl ?c1 ?c2 ?c3 ?c4 ?c5 ?_))
        case c1 =>
          intro j u hj
          rcases j with _ | j
          · simpa [Addr.add] using hj
          · simp at hj
        case c2 => intro u hu; simp at hu; subst hu; rfl
        case c3 => unfold maxLen; omega
        case c4 => omega
        case c5 => simp; omega
        intro v2 w2 hown2 hgrow _
        have HB2 := Lib.hid ((HB.out.alloc hsz _).trans (below_grown4 hgrow (by simp; omega) (own_base4 HO.out)))
        have HO2 := Lib.hid hown2
        clear hown2 hgrow hsz
        go_wp2
        go_roundg (64 - (k + 1))
        case measure => have := HG.out; omega
        case rel =>
          refine ⟨k + 1, by omega, rfl, by go_num, HB2.out, ?_⟩
          have e := HO2.out
          rw [HE.out, List.length_append, ticksI_length, HN.out, List.map_append]
          exact e
    · have hk64 : k = 64 := by omega
      subst hk64
      have HR := Lib.hid (ints_of_own HO.out (by rw [ticksI_length]; have := cntT_le m 64; omega))
      go_wp2
      go_ret
      exact ⟨_, rfl, HR.out, HB.out⟩

set_option maxRecDepth 100000 in
set_option maxHeartbeats 1000000 in
theorem refTicks_any (m : Nat) (w : World) (hm : m < 18446744073709551616) :
    Calls Tryz.prog 142 #[.int .u64 m] w (RetL (ticksI m 64) w) := by
  obtain ⟨i0, hi, hz0, hz1, hz2⟩ := info_parts Tryz.infoInt
  go_enter Tryz.func142, Tryz.ntmps142
  go_wp2_with fail
  have HB0 := Lib.hid (show Below w.heap.size w (w.alloc (Obj.cells #[] 3)) from (Below.refl _ _).alloc (Nat.le_refl _) _)
  have HO0 : Hid ((w.alloc (Obj.cells #[] 3)).ownsRow w.heap.size 3 1 (.slice (some ⟨w.heap.size, 0, none⟩) 0 0) 0 []) :=
    ⟨rfl, .inr ⟨w.heap.size, 0, #[], rfl, Nat.le_refl _, heap_alloc_new w _, Nat.le_refl _, Nat.zero_le _, rfl, rfl⟩⟩
  go_loopg [3, 4] 64 (fun g s i wr => TicksRel m w g s i wr)
  case atStart => exact ⟨0, Nat.zero_le _, rfl, rfl, HB0.out, HO0.out⟩
  case round =>
    obtain ⟨k, hk, hg, rfl, hbr, hown⟩ := hrel
    have HG := Lib.hid hg
    have HB := Lib.hid hbr
    have HO := Lib.hid hown
    clear hg hbr hown
    by_cases hlt : k < 64
    · have HH := Lib.hid (fun W => refHas_any m (k : Int) W hm)
      rw [hasB_nat hlt] at HH
      have hlen : cntT m k ≤ k := cntT_le m k
      rw [ticksI_length] at HO
      generalize hn : cntT m k = n at *
      have HN := Lib.hid hn
      clear hn
      cases hb : m.testBit k
      · have HE := Lib.hid (ticksI_no hb)
        rw [hb] at HH
        clear hb
        go_wp2_with (go_at_call 95; refine (HH.out _).mono ?_; rintro e w' ⟨rfl, rfl⟩)
        go_roundg (64 - (k + 1))
        case measure => have := HG.out; omega
        case rel => exact ⟨k + 1, by omega, rfl, by go_num, HB.out, by rw [HE.out, ticksI_length, HN.out]; exact HO.out⟩
      · have HE := Lib.hid (ticksI_yes hb)
        rw [hb] at HH
        clear hb
        have hsz := HB.out.size
        go_wp2_with (first
          | (go_at_call 95; refine (HH.out _).mono ?_; rintro e w' ⟨rfl, rfl⟩)
          | (at_builtin; refine wpList_append_own _ rfl _ _ 43 rfl w.heap.size 3 i0 (.int .i64 0) 1 8 Tryz.underlying43 hi hz0 hz1 hz2 rfl (by decide) _ _ _ rfl (HO.out.alloc _) ⟨wr.heap.size, 0, none⟩ 1 1 [.int .i64 k] rfl rfl ?c1 ?c2 ?c3 ?c4 ?c5 ?_))
        case c1 =>
          intro j u hj
          rcases j with _ | j
          · simpa [Addr.add] using hj
          · simp at hj
        case c2 => intro u hu; simp at hu; subst hu; rfl
        case c3 => unfold maxLen; omega
        case c4 => omega
        case c5 => simp; omega
        intro v2 w2 hown2 hgrow _
        have HB2 := Lib.hid ((HB.out.alloc hsz _).trans (below_grown4 hgrow (by simp; omega) (own_base4 HO.out)))
        have HO2 := Lib.hid hown2
        clear hown2 hgrow hsz
        go_wp2
        go_roundg (64 - (k + 1))
        case measure => have := HG.out; omega
        case rel =>
          refine ⟨k + 1, by omega, rfl, by go_num, HB2.out, ?_⟩
          have e := HO2.out
          rw [HE.out, List.length_append, ticksI_length, HN.out, List.map_append]
          exact e
    · have hk64 : k = 64 := by omega
      subst hk64
      have HR := Lib.hid (ints_of_own HO.out (by rw [ticksI_length]; have := cntT_le m 64; omega))
      go_wp2
      go_ret
      exact ⟨_, rfl, HR.out, HB.out⟩

theorem refCount_any (m : Nat) (w : World) (hm : m < 18446744073709551616) : Calls Tryz.prog 92 #[.int .u64 m] w (RetB (.int .i64 (cnt m)) w) := by
  have HT := Lib.hid (refTicks_any m w hm)
  go_enter Tryz.func92, Tryz.ntmps92
  go_wp2_with fail
  refine HT.out.mono ?_
  rintro e w1 ⟨v, rfl, hi, hb⟩
  obtain ⟨A, c, rfl, _, _⟩ := hi
  have HB := Lib.hid hb
  clear hb
  rw [ticksI_length]
  go_wp2
  go_ret
  exact ⟨rfl, HB.out⟩
end Go.Proofs.YtpfpojehcjmfnaaGreat

/-
  Numbers alone: how many bits are set, by adding fields side by side.
  Conditions: the number is below 2^64.
-/
set_option linter.unusedVariables false
namespace Go.Proofs.YtpfpojehcjmfnaaGreat

/-- Bits, from the lowest on. -/
def cntL : Nat → Nat → Nat
  | 0, _ => 0
  | k + 1, m => m % 2 + cntL k (m / 2)

theorem cntL_succ : ∀ (k m : Nat), cntL (k + 1) m = cntL k m + (m.testBit k).toNat
  | 0, m => by
    simp only [cntL, Nat.testBit_zero]
    rcases Nat.mod_two_eq_zero_or_one m with h | h <;> simp [h]
  | k + 1, m => by
    have ih := cntL_succ k (m / 2)
    rw [cntL, ih, Nat.testBit_succ]
    simp only [cntL]
    omega
theorem cntT_L (m k : Nat) : cntT m k = cntL k m := by
  induction k with
  | zero => rfl
  | succ k ih => rw [cntT_succ, cntL_succ, ih]
theorem cntL_byte (k m : Nat) : cntL (k + 8) m = cntL 8 (m % 256) + cntL k (m / 256) := by
  simp only [cntL, Nat.div_div_eq_div_mul, Nat.reduceMul]
  omega

theorem and_split {a k : Nat} (ha : a < 256) (hk : k < 256) (r K : Nat) : (a + 256 * r) &&& (k + 256 * K) = (a &&& k) + 256 * (r &&& K) := by
  have h1 := @Nat.and_div_two_pow (a + 256 * r) (k + 256 * K) 8
  have h2 := @Nat.and_mod_two_pow (a + 256 * r) (k + 256 * K) 8
  simp only [Nat.reducePow] at h1 h2
  have e1 : (a + 256 * r) / 256 = r := by omega
  have e2 : (k + 256 * K) / 256 = K := by omega
  have e3 : (a + 256 * r) % 256 = a := by omega
  have e4 : (k + 256 * K) % 256 = k := by omega
  rw [e1, e2] at h1
  rw [e3, e4] at h2
  omega

def S1 (m K : Nat) : Nat := (m / 2 &&& K) + (m &&& K)
def S2 (m K : Nat) : Nat := (m / 4 &&& K) + (m &&& K)
def S3 (m K : Nat) : Nat := (m / 16 + m) &&& K
def s1 (b : Nat) : Nat := (b / 2 &&& 85) + (b &&& 85)
def s2 (b : Nat) : Nat := (b / 4 &&& 51) + (b &&& 51)
def s3 (b : Nat) : Nat := (b / 16 + b) &&& 15

theorem d1 : ∀ b, b < 256 → ∀ e, e < 2 → (b / 2 + 128 * e) &&& 85 = b / 2 &&& 85 := by decide +kernel
theorem d2 : ∀ b, b < 256 → ∀ e, e < 4 → (b / 4 + 64 * e) &&& 51 = b / 4 &&& 51 := by decide +kernel
theorem d3 : ∀ b, b < 69 → ∀ e, e < 5 → (b / 16 + b + 16 * e) &&& 15 = (b / 16 + b) &&& 15 := by decide +kernel
theorem d4 : ∀ b, b < 256 → s1 b < 256 ∧ s2 (s1 b) < 69 ∧ s2 (s1 b) % 16 < 5 ∧ s3 (s2 (s1 b)) = cntL 8 b ∧ cntL 8 b < 9 := by decide +kernel

theorem S1_byte {b : Nat} (hb : b < 256) (r K : Nat) : S1 (b + 256 * r) (85 + 256 * K) = s1 b + 256 * S1 r K := by
  have e : (b + 256 * r) / 2 = (b / 2 + 128 * (r % 2)) + 256 * (r / 2) := by omega
  unfold S1 s1
  rw [e, and_split (by omega) (by decide), and_split hb (by decide), d1 b hb _ (by omega)]
  omega
theorem S2_byte {b : Nat} (hb : b < 256) (r K : Nat) : S2 (b + 256 * r) (51 + 256 * K) = s2 b + 256 * S2 r K := by
  have e : (b + 256 * r) / 4 = (b / 4 + 64 * (r % 4)) + 256 * (r / 4) := by omega
  unfold S2 s2
  rw [e, and_split (by omega) (by decide), and_split hb (by decide), d2 b hb _ (by omega)]
  omega
theorem S3_byte {b : Nat} (hb : b < 69) (r K : Nat) (hr : r % 16 < 5) : S3 (b + 256 * r) (15 + 256 * K) = s3 b + 256 * S3 r K := by
  have e : (b + 256 * r) / 16 + (b + 256 * r) = (b / 16 + b + 16 * (r % 16)) + 256 * (r / 16 + r) := by omega
  unfold S3 s3
  rw [e, and_split (by omega) (by decide), d3 b hb _ hr]

def kk (c : Nat) : Nat → Nat
  | 0 => 0
  | n + 1 => c + 256 * kk c n
def cB (m : Nat) : Nat := cntL 8 (m % 256)
theorem cB_lt (m : Nat) : cB m < 9 := (d4 _ (Nat.mod_lt _ (by decide))).2.2.2.2
theorem cntL_cB (k m : Nat) : cntL (k + 8) m = cB m + cntL k (m / 256) := cntL_byte k m
def dig : Nat → Nat → Nat
  | 0, _ => 0
  | n + 1, m => cB m + 256 * dig n (m / 256)
theorem dig_zero (m : Nat) : dig 0 m = 0 := rfl
theorem dig_succ (n m : Nat) : dig (n + 1) m = cB m + 256 * dig n (m / 256) := rfl

theorem fields : ∀ (n m : Nat), m < 256 ^ n → S2 (S1 m (kk 85 n)) (kk 51 n) % 16 < 5 ∧ S3 (S2 (S1 m (kk 85 n)) (kk 51 n)) (kk 15 n) = dig n m
  | 0, m, h => by
    have : m = 0 := by simpa using h
    subst this
    decide
  | n + 1, m, h => by
    have hr : m / 256 < 256 ^ n := by rw [Nat.pow_succ] at h; omega
    obtain ⟨i1, i2⟩ := fields n (m / 256) hr
    have e : m = m % 256 + 256 * (m / 256) := by omega
    have hb : m % 256 < 256 := by omega
    obtain ⟨q1, q2, q3, q4, _⟩ := d4 _ hb
    have k1 : kk 85 (n + 1) = 85 + 256 * kk 85 n := rfl
    have k2 : kk 51 (n + 1) = 51 + 256 * kk 51 n := rfl
    have k3 : kk 15 (n + 1) = 15 + 256 * kk 15 n := rfl
    have z : S2 (S1 m (kk 85 (n + 1))) (kk 51 (n + 1)) = s2 (s1 (m % 256)) + 256 * S2 (S1 (m / 256) (kk 85 n)) (kk 51 n) := by
      rw [k1, k2]
      conv => lhs; rw [e]
      rw [S1_byte hb, S2_byte q1]
    rw [z, k3, S3_byte q2 _ _ i1, i2, q4]
    exact ⟨by omega, rfl⟩

/-- Digits to the base 256. -/
def p8 (c0 c1 c2 c3 c4 c5 c6 c7 : Nat) : Nat := c0 + 256 * (c1 + 256 * (c2 + 256 * (c3 + 256 * (c4 + 256 * (c5 + 256 * (c6 + 256 * c7))))))
theorem p8_lt (B c0 c1 c2 c3 c4 c5 c6 c7 : Nat) (h0 : c0 ≤ B) (h1 : c1 ≤ B) (h2 : c2 ≤ B) (h3 : c3 ≤ B) (h4 : c4 ≤ B) (h5 : c5 ≤ B) (h6 : c6 ≤ B) (h7 : c7 ≤ B) :
    p8 c0 c1 c2 c3 c4 c5 c6 c7 ≤ 72340172838076673 * B := by
  unfold p8
  omega
theorem p8_add (a0 a1 a2 a3 a4 a5 a6 a7 b0 b1 b2 b3 b4 b5 b6 b7 : Nat) :
    p8 a0 a1 a2 a3 a4 a5 a6 a7 + p8 b0 b1 b2 b3 b4 b5 b6 b7 = p8 (a0 + b0) (a1 + b1) (a2 + b2) (a3 + b3) (a4 + b4) (a5 + b5) (a6 + b6) (a7 + b7) := by
  unfold p8
  omega
theorem p8_shift (c0 c1 c2 c3 c4 c5 c6 c7 : Nat) (h0 : c0 < 256) : p8 c0 c1 c2 c3 c4 c5 c6 c7 / 256 = p8 c1 c2 c3 c4 c5 c6 c7 0 := by
  unfold p8
  omega
theorem p8_low (c0 c1 c2 c3 c4 c5 c6 c7 : Nat) (h0 : c0 < 128) : p8 c0 c1 c2 c3 c4 c5 c6 c7 % 128 = c0 := by
  unfold p8
  omega

theorem sum8 (c0 c1 c2 c3 c4 c5 c6 c7 : Nat) (h0 : c0 < 9) (h1 : c1 < 9) (h2 : c2 < 9) (h3 : c3 < 9) (h4 : c4 < 9) (h5 : c5 < 9) (h6 : c6 < 9) (h7 : c7 < 9) :
    ∃ x4 x5 x6 : Nat, p8 c0 c1 c2 c3 c4 c5 c6 c7 < 1152921504606846976 ∧ p8 c0 c1 c2 c3 c4 c5 c6 c7 + p8 c0 c1 c2 c3 c4 c5 c6 c7 / 256 = x4 ∧
      x4 < 2305843009213693952 ∧ x4 + x4 / 65536 = x5 ∧ x5 < 4611686018427387904 ∧ x5 + x5 / 4294967296 = x6 ∧ x6 < 9223372036854775808 ∧ x6 % 128 = c0 + (c1 + (c2 + (c3 + (c4 + (c5 + (c6 + c7)))))) := by
  have b0 := p8_lt 8 c0 c1 c2 c3 c4 c5 c6 c7 (by omega) (by omega) (by omega) (by omega) (by omega) (by omega) (by omega) (by omega)
  have q1 := p8_shift c0 c1 c2 c3 c4 c5 c6 c7 (by omega)
  have s1 := p8_add c0 c1 c2 c3 c4 c5 c6 c7 c1 c2 c3 c4 c5 c6 c7 0
  have b1 := p8_lt 16 (c0 + c1) (c1 + c2) (c2 + c3) (c3 + c4) (c4 + c5) (c5 + c6) (c6 + c7) (c7 + 0) (by omega) (by omega) (by omega) (by omega) (by omega) (by omega) (by omega) (by omega)
  have q2 := p8_shift (c0 + c1) (c1 + c2) (c2 + c3) (c3 + c4) (c4 + c5) (c5 + c6) (c6 + c7) (c7 + 0) (by omega)
  have q3 := p8_shift (c1 + c2) (c2 + c3) (c3 + c4) (c4 + c5) (c5 + c6) (c6 + c7) (c7 + 0) 0 (by omega)
  have s2 := p8_add (c0 + c1) (c1 + c2) (c2 + c3) (c3 + c4) (c4 + c5) (c5 + c6) (c6 + c7) (c7 + 0) (c2 + c3) (c3 + c4) (c4 + c5) (c5 + c6) (c6 + c7) (c7 + 0) 0 0
  have b2 := p8_lt 32 (c0 + c1 + (c2 + c3)) (c1 + c2 + (c3 + c4)) (c2 + c3 + (c4 + c5)) (c3 + c4 + (c5 + c6)) (c4 + c5 + (c6 + c7)) (c5 + c6 + (c7 + 0)) (c6 + c7 + 0) (c7 + 0 + 0) (by omega) (by omega) (by omega) (by omega) (by omega) (by omega) (by omega) (by omega)
  have q4 := p8_shift (c0 + c1 + (c2 + c3)) (c1 + c2 + (c3 + c4)) (c2 + c3 + (c4 + c5)) (c3 + c4 + (c5 + c6)) (c4 + c5 + (c6 + c7)) (c5 + c6 + (c7 + 0)) (c6 + c7 + 0) (c7 + 0 + 0) (by omega)
  have q5 := p8_shift (c1 + c2 + (c3 + c4)) (c2 + c3 + (c4 + c5)) (c3 + c4 + (c5 + c6)) (c4 + c5 + (c6 + c7)) (c5 + c6 + (c7 + 0)) (c6 + c7 + 0) (c7 + 0 + 0) 0 (by omega)
  have q6 := p8_shift (c2 + c3 + (c4 + c5)) (c3 + c4 + (c5 + c6)) (c4 + c5 + (c6 + c7)) (c5 + c6 + (c7 + 0)) (c6 + c7 + 0) (c7 + 0 + 0) 0 0 (by omega)
  have q7 := p8_shift (c3 + c4 + (c5 + c6)) (c4 + c5 + (c6 + c7)) (c5 + c6 + (c7 + 0)) (c6 + c7 + 0) (c7 + 0 + 0) 0 0 0 (by omega)
  have s3 := p8_add (c0 + c1 + (c2 + c3)) (c1 + c2 + (c3 + c4)) (c2 + c3 + (c4 + c5)) (c3 + c4 + (c5 + c6)) (c4 + c5 + (c6 + c7)) (c5 + c6 + (c7 + 0)) (c6 + c7 + 0) (c7 + 0 + 0) (c4 + c5 + (c6 + c7)) (c5 + c6 + (c7 + 0)) (c6 + c7 + 0) (c7 + 0 + 0) 0 0 0 0
  have lo := p8_low (c0 + c1 + (c2 + c3) + (c4 + c5 + (c6 + c7))) (c1 + c2 + (c3 + c4) + (c5 + c6 + (c7 + 0))) (c2 + c3 + (c4 + c5) + (c6 + c7 + 0)) (c3 + c4 + (c5 + c6) + (c7 + 0 + 0)) (c4 + c5 + (c6 + c7) + 0) (c5 + c6 + (c7 + 0) + 0) (c6 + c7 + 0 + 0) (c7 + 0 + 0 + 0) (by omega)
  rw [← q1] at s1
  rw [← s1] at q2 b1
  have h65 : ∀ x : Nat, x / 256 / 256 = x / 65536 := fun x => by rw [Nat.div_div_eq_div_mul]
  have h43 : ∀ x : Nat, x / 256 / 256 / 256 / 256 = x / 4294967296 := fun x => by rw [Nat.div_div_eq_div_mul, Nat.div_div_eq_div_mul, Nat.div_div_eq_div_mul]
  rw [← q2, h65] at q3
  rw [← s1, ← q3] at s2
  rw [← s2] at q4 b2
  rw [← q4] at q5
  rw [← q5] at q6
  rw [← q6, h43] at q7
  rw [← s2, ← q7] at s3
  rw [← s3] at lo
  refine ⟨_, _, _, by omega, rfl, by omega, rfl, by omega, rfl, ?_, ?_⟩
  · have := Nat.div_le_self (p8 c0 c1 c2 c3 c4 c5 c6 c7 + p8 c0 c1 c2 c3 c4 c5 c6 c7 / 256 + (p8 c0 c1 c2 c3 c4 c5 c6 c7 + p8 c0 c1 c2 c3 c4 c5 c6 c7 / 256) / 65536) 4294967296
    generalize (p8 c0 c1 c2 c3 c4 c5 c6 c7 + p8 c0 c1 c2 c3 c4 c5 c6 c7 / 256 + (p8 c0 c1 c2 c3 c4 c5 c6 c7 + p8 c0 c1 c2 c3 c4 c5 c6 c7 / 256) / 65536) / 4294967296 = u at *
    omega
  · rw [lo]
    omega

theorem cntL_zero (m : Nat) : cntL 0 m = 0 := rfl
theorem cnt_bytes (m : Nat) : ∃ c0 c1 c2 c3 c4 c5 c6 c7 : Nat, (c0 < 9 ∧ c1 < 9 ∧ c2 < 9 ∧ c3 < 9 ∧ c4 < 9 ∧ c5 < 9 ∧ c6 < 9 ∧ c7 < 9) ∧
    dig 8 m = p8 c0 c1 c2 c3 c4 c5 c6 c7 ∧ cnt m = c0 + (c1 + (c2 + (c3 + (c4 + (c5 + (c6 + c7)))))) := by
  have e : cnt m = cntL 64 m := cntT_L m 64
  rw [e]
  have a0 := cntL_cB 56 m
  have a1 := cntL_cB 48 (m / 256)
  have a2 := cntL_cB 40 (m / 256 / 256)
  have a3 := cntL_cB 32 (m / 256 / 256 / 256)
  have a4 := cntL_cB 24 (m / 256 / 256 / 256 / 256)
  have a5 := cntL_cB 16 (m / 256 / 256 / 256 / 256 / 256)
  have a6 := cntL_cB 8 (m / 256 / 256 / 256 / 256 / 256 / 256)
  have a7 := cntL_cB 0 (m / 256 / 256 / 256 / 256 / 256 / 256 / 256)
  rw [cntL_zero] at a7
  have b0 := dig_succ 7 m
  have b1 := dig_succ 6 (m / 256)
  have b2 := dig_succ 5 (m / 256 / 256)
  have b3 := dig_succ 4 (m / 256 / 256 / 256)
  have b4 := dig_succ 3 (m / 256 / 256 / 256 / 256)
  have b5 := dig_succ 2 (m / 256 / 256 / 256 / 256 / 256)
  have b6 := dig_succ 1 (m / 256 / 256 / 256 / 256 / 256 / 256)
  have b7 := dig_succ 0 (m / 256 / 256 / 256 / 256 / 256 / 256 / 256)
  rw [dig_zero] at b7
  refine ⟨cB m, cB (m / 256), cB (m / 256 / 256), cB (m / 256 / 256 / 256), cB (m / 256 / 256 / 256 / 256), cB (m / 256 / 256 / 256 / 256 / 256), cB (m / 256 / 256 / 256 / 256 / 256 / 256), cB (m / 256 / 256 / 256 / 256 / 256 / 256 / 256), ⟨cB_lt _, cB_lt _, cB_lt _, cB_lt _, cB_lt _, cB_lt _, cB_lt _, cB_lt _⟩, ?_, ?_⟩
  · rw [b0, b1, b2, b3, b4, b5, b6, b7]
    unfold p8
    rw [Nat.mul_zero, Nat.add_zero]
  · simp only [Nat.reduceAdd] at a0 a1 a2 a3 a4 a5 a6 a7
    rw [a0, a1, a2, a3, a4, a5, a6, a7]
    rfl

/-- All of it. -/
theorem ones_nat (m : Nat) (hm : m < 18446744073709551616) : ∃ x1 x2 x3 x4 x5 x6 : Nat,
    (m / 2 &&& 6148914691236517205) + (m &&& 6148914691236517205) = x1 ∧ (x1 / 4 &&& 3689348814741910323) + (x1 &&& 3689348814741910323) = x2 ∧
    (x2 / 16 + x2) &&& 1085102592571150095 = x3 ∧ x3 < 1152921504606846976 ∧ x3 + x3 / 256 = x4 ∧ x4 < 2305843009213693952 ∧ x4 + x4 / 65536 = x5 ∧ x5 < 4611686018427387904 ∧
    x5 + x5 / 4294967296 = x6 ∧ x6 < 9223372036854775808 ∧ x6 % 128 = cnt m := by
  have hf := (fields 8 m (by simpa using hm)).2
  have k1 : kk 85 8 = 6148914691236517205 := by decide
  have k2 : kk 51 8 = 3689348814741910323 := by decide
  have k3 : kk 15 8 = 1085102592571150095 := by decide
  rw [k1, k2, k3] at hf
  obtain ⟨c0, c1, c2, c3, c4, c5, c6, c7, ⟨h0, h1, h2, h3, h4, h5, h6, h7⟩, hd, hc⟩ := cnt_bytes m
  obtain ⟨x4, x5, x6, g1, g2, g3, g4, g5, g6, g7, g8⟩ := sum8 c0 c1 c2 c3 c4 c5 c6 c7 h0 h1 h2 h3 h4 h5 h6 h7
  rw [← hd] at g1 g2
  rw [← hc] at g8
  exact ⟨_, _, dig 8 m, x4, x5, x6, rfl, rfl, hf, g1, g2, g3, g4, g5, g6, g7, g8⟩
end Go.Proofs.YtpfpojehcjmfnaaGreat
