/-
  math/bits.OnesCount64, and Count, Lowest and Highest of the program.
  Conditions: the numbers are of their kinds.
-/
import Derived.Test.YtincbilobmhgeaaM04
import Derived.Test.YtincbilobmhgeaaM01
import Derived.Laws.BitsAllLaws
import Derived.Shelf.RegionOpenPlain
import Derived.Test.YtincbilobmhgeaaM02
import Derived.Shelf.SlSortCmp.QuietGrown
import Derived.OwnWalk
import Derived.WalkLawsBesides

/-
  The plain answers about a frame and a tick: length, Frame, All, inRange, Has, With.
  Conditions: the numbers are of their kinds.
-/
set_option linter.unusedVariables false
namespace Go.Proofs.Ytincbilobmhgeaa
open Go.RowKit

theorem ret_nat {k : IntKind} {a b : Nat} (h : a = b) : Ending.returned (.int k a) = .returned (.int k b) := by rw [h]

/-- How many ticks a frame has. -/
def frN (f : Int) : Nat := (min (max f 0) 64).toNat
theorem frN_le (f : Int) : frN f ≤ 64 := by unfold frN; omega

theorem pow_cast (k : Nat) : ((2 : Int) ^ k) = ((2 ^ k : Nat) : Int) := by simp
theorem all_word (k : Nat) (hk : k ≤ 64) : IntKind.u64.wrap (IntKind.u64.wrap (2 ^ k) - 1) = (allN k : Int) := by
  rw [pow_cast]
  unfold allN
  have h2 : 0 < 2 ^ k := Nat.two_pow_pos k
  rcases Nat.lt_or_ge k 64 with h | h
  · have h1 := pow_lt64 h
    generalize 2 ^ k = K at *
    rw [IntKind.wrap_u64, IntKind.wrap_u64]
    omega
  · have : k = 64 := by omega
    subst this
    rfl

def hasB (m : Nat) (t : Int) : Bool := decide (0 ≤ t ∧ t < 64) && m.testBit t.toNat
theorem hasB_nat {m t : Nat} (h : t < 64) : hasB m (t : Int) = m.testBit t := by
  unfold hasB
  have : decide ((0 : Int) ≤ (t : Int) ∧ (t : Int) < 64) = true := decide_eq_true ⟨by omega, by omega⟩
  rw [this, Int.toNat_natCast]
  rfl
theorem hasB_out {m : Nat} {t : Int} (h : ¬ (0 ≤ t ∧ t < 64)) : hasB m t = false := by
  unfold hasB
  rw [decide_eq_false h]
  rfl

theorem shr_bit (m t : Nat) (hm : m < 18446744073709551616) : bits BinOp.and IntKind.u64 ((m : Int) / 2 ^ t) 1 = ((m.testBit t).toNat : Int) := by
  have e1 := bits_and_u64_nat (m / 2 ^ t) 1 (Nat.lt_of_le_of_lt (Nat.div_le_self _ _) hm) (by decide)
  rw [show ((m : Int) / 2 ^ t) = ((m / 2 ^ t : Nat) : Int) by simp]
  rw [show ((1 : Nat) : Int) = 1 from rfl] at e1
  rw [e1, Nat.and_one_is_mod, Nat.testBit_eq_decide_div_mod_eq]
  rcases Nat.mod_two_eq_zero_or_one (m / 2 ^ t) with h | h <;> simp [h]
theorem shr_mod (m t : Nat) : ((m : Int) / 2 ^ t).tmod 2 = ((m.testBit t).toNat : Int) := by
  rw [Int.tmod_eq_emod_of_nonneg (by rw [show ((m : Int) / 2 ^ t) = ((m / 2 ^ t : Nat) : Int) by simp]; exact Int.natCast_nonneg _)]
  rw [show ((m : Int) / 2 ^ t % 2) = ((m / 2 ^ t % 2 : Nat) : Int) by simp, Nat.testBit_eq_decide_div_mod_eq]
  rcases Nat.mod_two_eq_zero_or_one (m / 2 ^ t) with h | h <;> simp [h]

set_option maxHeartbeats 1000000 in
theorem refHas_any (m : Nat) (t : Int) (w : World) (hm : m < 18446744073709551616) : Calls Try.prog 52 #[.int .u64 m, .int .i64 t] w (Ret (.bool (hasB m t)) w) := by
  by_cases h : 0 ≤ t ∧ t < 64
  · obtain ⟨T, rfl⟩ := Int.eq_ofNat_of_zero_le h.1
    have hT : T < 64 := by omega
    rw [hasB_nat hT]
    have e := shr_mod m T
    generalize m.testBit T = b at *
    clear h
    cases b
    all_goals
      simp only [Bool.toNat_true, Bool.toNat_false] at e
      go_enter Try.func52, Try.ntmps52
      go_wp2
      go_ret
      exact ⟨rfl, rfl⟩
  · rw [hasB_out h]
    by_cases h0 : t < 0
    · clear h
      go_enter Try.func52, Try.ntmps52
      go_wp2
      go_ret
      exact ⟨rfl, rfl⟩
    · have h1 : decide (63 < t) = true := decide_eq_true (by omega)
      have h1' : decide (t > 63) = true := decide_eq_true (by omega)
      have h2 : 63 < t := by omega
      clear h
      go_enter Try.func52, Try.ntmps52
      go_wp2
      go_ret
      exact ⟨rfl, rfl⟩

/-- What With answers. -/
def withI (m : Nat) (t : Int) : Nat := if 0 ≤ t ∧ t < 64 then withN m t.toNat else m
theorem withI_nat {m t : Nat} (h : t < 64) : withI m (t : Int) = withN m t := by
  unfold withI
  rw [if_pos ⟨by omega, by omega⟩, Int.toNat_natCast]
theorem withI_out {m : Nat} {t : Int} (h : ¬ (0 ≤ t ∧ t < 64)) : withI m t = m := by
  unfold withI
  rw [if_neg h]
theorem withI_lt {m : Nat} {t : Int} (hm : m < 18446744073709551616) : withI m t < 18446744073709551616 := by
  by_cases h : 0 ≤ t ∧ t < 64
  · obtain ⟨T, rfl⟩ := Int.eq_ofNat_of_zero_le h.1
    rw [withI_nat (by omega)]
    exact withN_lt hm (by omega)
  · rw [withI_out h]; exact hm

theorem add_word {m t : Nat} (hm : m < 18446744073709551616) (ht : t < 64) (h : m.testBit t = false) : IntKind.u64.wrap ((m : Int) + IntKind.u64.wrap (2 ^ t)) = (withN m t : Int) := by
  have e := add_pow h
  have h1 := withN_lt hm ht
  have h2 := pow_lt64 ht
  rw [← e] at h1 ⊢
  rw [pow_cast]
  generalize 2 ^ t = K at *
  rw [IntKind.wrap_u64, IntKind.wrap_u64]
  omega
theorem or_word {m t : Nat} (hm : m < 18446744073709551616) (ht : t < 64) : bits BinOp.or IntKind.u64 (m : Int) (IntKind.u64.wrap (2 ^ t)) = (withN m t : Int) := by
  have h2 := pow_lt64 ht
  rw [pow_cast]
  have e : IntKind.u64.wrap ((2 ^ t : Nat) : Int) = ((2 ^ t : Nat) : Int) := by
    generalize 2 ^ t = K at *
    rw [IntKind.wrap_u64]
    omega
  rw [e, bits_or_u64_nat _ _ hm h2]
  rfl

set_option maxHeartbeats 1000000 in
theorem with_any (m : Nat) (t : Int) (w : World) (hm : m < 18446744073709551616) : Calls Try.prog 67 #[.int .u64 m, .int .i64 t] w (Ret (.int .u64 (withI m t)) w) := by
  have HH := Lib.hid (refHas_any m t w hm)
  by_cases h : 0 ≤ t ∧ t < 64
  · obtain ⟨T, rfl⟩ := Int.eq_ofNat_of_zero_le h.1
    have hT : T < 64 := by omega
    rw [withI_nat hT]
    rw [hasB_nat hT] at HH
    cases hb : m.testBit T
    · rw [hb] at HH
      have e := add_word hm hT hb
      generalize withN m T = M at *
      have h1 : decide ((T : Int) < 0) = false := decide_eq_false (by omega)
      have h2 : decide ((63 : Int) < (T : Int)) = false := decide_eq_false (by omega)
      clear h hb
      go_enter Try.func67, Try.ntmps67
      go_wp2_with (go_at_call 52; refine HH.out.mono ?_; rintro e w' ⟨rfl, rfl⟩)
      go_ret
      exact ⟨rfl, rfl⟩
    · rw [hb] at HH
      rw [withN_of hb]
      clear h hb
      go_enter Try.func67, Try.ntmps67
      go_wp2_with (go_at_call 52; refine HH.out.mono ?_; rintro e w' ⟨rfl, rfl⟩)
      go_ret
      exact ⟨rfl, rfl⟩
  · rw [withI_out h]
    rw [hasB_out h] at HH
    by_cases h0 : t < 0
    · clear h
      go_enter Try.func67, Try.ntmps67
      go_wp2_with (go_at_call 52; refine HH.out.mono ?_; rintro e w' ⟨rfl, rfl⟩)
      go_ret
      exact ⟨rfl, rfl⟩
    · have h1 : decide (63 < t) = true := decide_eq_true (by omega)
      have h2 : 63 < t := by omega
      have h3 : decide (t < 0) = false := decide_eq_false h0
      clear h
      go_enter Try.func67, Try.ntmps67
      go_wp2_with (go_at_call 52; refine HH.out.mono ?_; rintro e w' ⟨rfl, rfl⟩)
      go_ret
      exact ⟨rfl, rfl⟩

/-- What a division by the frame, rounded down, leaves. -/
def modN (n : Int) (f : Nat) : Nat := (n % (f : Int)).toNat
theorem modN_cast {n : Int} {f : Nat} (h : 0 < f) : (modN n f : Int) = n % (f : Int) := by
  unfold modN
  exact Int.toNat_of_nonneg (Int.emod_nonneg _ (by omega))
theorem modN_lt {n : Int} {f : Nat} (h : 0 < f) : modN n f < f := by
  have h1 := modN_cast (n := n) h
  have := Int.emod_lt_of_pos n (show (0 : Int) < (f : Int) by omega)
  omega
theorem tmod_cases (n : Int) {f : Nat} (h : 0 < f) : (0 ≤ n.tmod f ∧ n.tmod f = modN n f) ∨ (n.tmod f < 0 ∧ n.tmod f + f = modN n f) := by
  rw [modN_cast h]
  rw [Int.tmod_eq_emod]
  by_cases h0 : 0 ≤ n ∨ (f : Int) ∣ n
  · rw [if_pos h0]
    left
    have := Int.emod_nonneg n (show (f : Int) ≠ 0 by omega)
    omega
  · rw [if_neg h0]
    right
    have := Int.emod_lt_of_pos n (show (0 : Int) < (f : Int) by omega)
    simp
    omega
theorem tmod_bound (n : Int) {f : Nat} (h : 0 < f) (hf : f ≤ 64) : -64 ≤ n.tmod f ∧ n.tmod f < 64 := by
  have := modN_lt (n := n) h
  rcases tmod_cases n h with h1 | h1 <;> omega

theorem wrap64_small4 {n : Int} (h : -4611686018427387904 ≤ n) (h1 : n ≤ 4611686018427387904) : wrap64 n = n := by
  unfold wrap64
  omega
theorem modulo_word (n : Int) (f : Nat) (h0 : 0 < f) (hf : f ≤ 64) : (wrap64 (n.tmod f + f)).tmod f = modN n f := by
  have hc := tmod_cases n h0
  have hb := tmod_bound n h0 hf
  have hl := modN_lt (n := n) h0
  generalize n.tmod f = r at *
  rw [wrap64_small4 (by omega) (by omega), Int.tmod_eq_emod_of_nonneg (by omega)]
  rcases hc with ⟨h1, h2⟩ | ⟨h1, h2⟩
  · rw [Int.add_emod_right, Int.emod_eq_of_lt (by omega) (by omega)]; omega
  · rw [Int.emod_eq_of_lt (by omega) (by omega)]; omega

/-- A tick, so much later, round. -/
def laterN (f l i : Nat) : Nat := (i + l) % f
theorem later_word (f i : Nat) (k : Int) (h0 : 0 < f) (hf : f ≤ 64) (hi : i ≤ 64) : ((i : Int) + modN k f) % f = (laterN f (modN k f) i : Int) := by
  have hl := modN_lt (n := k) h0
  generalize modN k f = l at *
  unfold laterN
  simp
end Go.Proofs.Ytincbilobmhgeaa

/-
  slices.IndexFunc, slices.ContainsFunc over spans.
  Conditions: the predicate, whatever the world, answers so, and leaves all that was.
-/
set_option linter.unusedVariables false
namespace Go.Proofs.Ytincbilobmhgeaa
open Go.RowKit

/-- A predicate that may make memory. -/
def PredS (g : Nat) (lb : Array Value) (p : Sp → Bool) (w : World) : Prop :=
  ∀ (W : World) (x : Sp), Below w.heap.size w W → Calls Try.prog g (#[.agg #[.int .i64 x.1, .int .i64 x.2]] ++ lb) W (RetB (.bool (p x)) W)
/-- The first at which it holds, or -1. -/
def FirstOf (p : Sp → Bool) (ps : List Sp) (r : Int) : Prop :=
  (r = -1 ∧ ∀ s ∈ ps, p s = false) ∨ ∃ (k : Nat) (s : Sp), r = k ∧ ps[k]? = some s ∧ p s = true ∧ ∀ (j : Nat) (t : Sp), j < k → ps[j]? = some t → p t = false
theorem FirstOf.any {p : Sp → Bool} {ps : List Sp} {r : Int} (h : FirstOf p ps r) : decide (r ≥ 0) = ps.any p := by
  rcases h with ⟨rfl, h⟩ | ⟨k, s, rfl, hk, hp, _⟩
  · have : ps.any p = false := by
      rw [List.any_eq_false]
      intro x hx
      rw [h x hx]; simp
    rw [this]; rfl
  · have : ps.any p = true := List.any_eq_true.2 ⟨s, List.mem_of_getElem? hk, hp⟩
    rw [this]; simp
end Go.Proofs.Ytincbilobmhgeaa

/-
  cmp.Compare, cmp.Or, the program's compare and Ahead, the document's Ahead.
  Conditions: none.
-/
set_option linter.unusedVariables false
namespace Go.Proofs.Ytincbilobmhgeaa
open Go.RowKit Go.Sort

def cmpI (p q : Int) : Int := if p < q then -1 else if q < p then 1 else 0

theorem isNaN_any (a : Int) (w : World) : Calls Try.prog 87 #[.int .i64 a] w (Ret (.bool false) w) := by
  have h : (a != a) = false := by simp
  go_enter Try.func87, Try.ntmps87
  go_wp2
  go_ret
  exact ⟨rfl, rfl⟩

/-- compare's answer, all that was left as it was. -/
theorem below_growN {B : Nat} {a W : World} (h : Go.RowKit.Below B a W) (hB : B ≤ W.heap.size) (n : Nat) (os : Array Obj) : Go.RowKit.Below B a (grow (W.drewN n) os) := by
  refine h.trans ⟨rfl, rfl, rfl, ?_, fun k hk => ?_⟩
  · show W.heap.size ≤ (W.heap ++ os).size
    simp
  · show (W.heap ++ os)[k]? = _
    rw [Array.getElem?_append_left (by omega)]
end Go.Proofs.Ytincbilobmhgeaa

/-
  Has of the document, hasCore, isWhole, wantOf, compareUnits of the program.
  Conditions: the numbers are of their kinds.
-/
set_option linter.unusedVariables false
namespace Go.Proofs.Ytincbilobmhgeaa
open Go.RowKit Go.Sort

theorem hasB_core {m : Nat} {c : Int} (h : 0 ≤ c ∧ c < 16) : hasB m c = hasC m c := by
  obtain ⟨C, rfl⟩ := Int.eq_ofNat_of_zero_le h.1
  rw [hasB_nat (by omega), hasC_nat (by omega)]
theorem conv32 (m : Nat) (hm : m < 4294967296) : IntKind.u64.wrap (m : Int) = (m : Int) := by rw [IntKind.wrap_u64]; omega

set_option maxHeartbeats 1000000 in
theorem refHasC_any (f : Int) (m : Nat) (v : Value) (c : Int) (w : World) (hm : m < 4294967296) :
    Calls Try.prog 56 #[planA f m v, .int .i64 c] w (RetB (.bool (hasC m c)) w) := by
  have hconv := conv32 m hm
  obtain ⟨w1, P, hw1, hP, hPl, hb1, hbox⟩ := box_any w #[.int .i64 f, .int .u32 m, v] 25
  have HB1 := Lib.hid hb1
  obtain ⟨r0, r1, r2⟩ := three_heads hbox
  clear hb1 hbox
  unfold planA
  by_cases h0 : 0 ≤ c
  · by_cases h1 : c ≤ 15
    · have HH := Lib.hid (fun W => refHas_any m c W (by omega))
      rw [hasB_core ⟨h0, by omega⟩] at HH
      generalize hasC m c = r at *
      go_enter Try.func56, Try.ntmps56
      go_wp2_with (go_at_call 52; refine (HH.out _).mono ?_; rintro e w' ⟨rfl, rfl⟩)
      go_ret
      exact ⟨rfl, HB1.out⟩
    · rw [hasC_out (by omega)]
      have h1' : decide (c ≤ 15) = false := decide_eq_false h1
      go_enter Try.func56, Try.ntmps56
      go_wp2
      go_ret
      exact ⟨rfl, HB1.out⟩
  · rw [hasC_out (by omega)]
    have h0' : decide (0 ≤ c) = false := decide_eq_false h0
    go_enter Try.func56, Try.ntmps56
    go_wp2
    go_ret
    exact ⟨rfl, HB1.out⟩
end Go.Proofs.Ytincbilobmhgeaa

/-
  Ticks of a set as a list: the program's and the document's, and the document's Count.
  Conditions: the numbers are of their kinds.
-/
set_option linter.unusedVariables false
namespace Go.Proofs.Ytincbilobmhgeaa
open Go.RowKit

/-- The ticks below k, as ints. -/
def ticksI (m k : Nat) : List Int := (ticksT m k).map (fun t : Nat => (t : Int))
theorem ticksI_length (m k : Nat) : (ticksI m k).length = cntT m k := by unfold ticksI cntT; rw [List.length_map]
theorem ticksI_yes {m k : Nat} (h : m.testBit k = true) : ticksI m (k + 1) = ticksI m k ++ [(k : Int)] := by
  unfold ticksI
  rw [ticksT_succ, if_pos h, List.map_append]
  rfl
theorem ticksI_no {m k : Nat} (h : m.testBit k = false) : ticksI m (k + 1) = ticksI m k := by
  unfold ticksI
  rw [ticksT_succ, if_neg (by rw [h]; simp)]
theorem ticksI_get {m i : Nat} {x : Int} (h : (ticksI m 64)[i]? = some x) : ∃ j : Nat, x = (j : Int) ∧ (ticks m)[i]? = some j := by
  unfold ticksI at h
  rw [List.getElem?_map] at h
  obtain ⟨j, hj, rfl⟩ := Option.map_eq_some_iff.1 h
  exact ⟨j, rfl, hj⟩

/-- A list that a call answers. -/
def RetL (xs : List Int) (w : World) (e : Ending) (w' : World) : Prop := ∃ v, e = .returned v ∧ IntsAt w' v xs ∧ Below w.heap.size w w'

theorem ints_of_own {W : World} {base : Nat} {v : Value} {xs : List Int} (h : W.ownsRow base 3 1 v xs.length (xs.map (Value.int .i64))) (hl : xs.length ≤ 9223372036854775807) : IntsAt W v xs := by
  obtain ⟨h1, h2⟩ := h
  rcases h2 with ⟨rfl, h0⟩ | ⟨g, cap, cur, rfl, hg, hh, hn, hc, hs, ht⟩
  · have : xs = [] := List.eq_nil_of_length_eq_zero h0
    subst this
    exact IntsAt.nil W
  · refine ⟨_, _, rfl, hl, fun _ => ⟨g, 0, rfl, ?_, fun j x hx => ?_⟩⟩
    · rcases Nat.lt_or_ge g W.heap.size with h' | h'
      · exact h'
      · rw [Array.getElem?_eq_none h'] at hh; cases hh
    · rw [Nat.zero_add, cell_of_row W g j _ _ (0, 0) hh]
      have hj : j < xs.length := (List.getElem?_eq_some_iff.1 hx).1
      have : (cur.toList.take (xs.length * 1))[j]? = some (.int .i64 x) := by rw [ht, List.getElem?_map, hx]; rfl
      rw [List.getElem?_take, if_pos (by omega)] at this
      rw [← this]
      simp

theorem below_grown4 {w w' : World} {row : Option Nat} {B : Nat} (hg : w.grownBy w' row) (hB : B ≤ w.heap.size) (hr : ∀ k, row = some k → B ≤ k) : Below B w w' := (Below.refl B w).grown hg hB hr
theorem own_base4 {w : World} {base e size n : Nat} {v : Value} {xs : List Value} (h : w.ownsRow base e size v n xs) : ∀ k, v.ownBlock = some k → base ≤ k := by
  intro k hk
  rcases h.2 with ⟨h1, _⟩ | ⟨g, cap, cur, h1, h2, _⟩
  · subst h1; cases hk
  · subst h1; cases hk; exact h2

def TicksRel (m : Nat) (w : World) (g : Nat) (s i : Value) (wr : World) : Prop :=
  ∃ k : Nat, k ≤ 64 ∧ g = 64 - k ∧ i = .int .i64 k ∧ Below w.heap.size w wr ∧ wr.ownsRow w.heap.size 3 1 s (ticksI m k).length ((ticksI m k).map (Value.int .i64))

set_option maxRecDepth 100000 in
set_option maxHeartbeats 1000000 in
theorem refTicks_any (m : Nat) (w : World) (hm : m < 18446744073709551616) :
    Calls Try.prog 66 #[.int .u64 m] w (RetL (ticksI m 64) w) := by
  obtain ⟨i0, hi, hz0, hz1, hz2⟩ := info_parts Try.infoInt
  go_enter Try.func66, Try.ntmps66
  go_wp2_with fail
  have HB0 := Lib.hid (show Below w.heap.size w (w.alloc (Obj.cells #[] 3)) from (Below.refl _ _).alloc (Nat.le_refl _) _)
  have HO0 : Hid ((w.alloc (Obj.cells #[] 3)).ownsRow w.heap.size 3 1 (.slice (some ⟨w.heap.size, 0, none⟩) 0 0) 0 []) :=
    ⟨rfl, .inr ⟨w.heap.size, 0, #[], rfl, Nat.le_refl _, heap_alloc_new w _, Nat.le_refl _, Nat.zero_le _, rfl, rfl⟩⟩
  go_loopg [3, 4] 64 (fun g s i wr => TicksRel m w g s i wr)
  case atStart => exact ⟨0, Nat.zero_le _, rfl, rfl, HB0.out, HO0.out⟩
  case round =>
    obtain ⟨k, hk, hg, rfl, hbr, hown⟩ := hrel
    have HG := Lib.hid hg
    have HB := Lib.hid hbr
    have HO := Lib.hid hown
    clear hg hbr hown
    by_cases hlt : k < 64
    · have HH := Lib.hid (fun W => refHas_any m (k : Int) W hm)
      rw [hasB_nat hlt] at HH
      have hlen : cntT m k ≤ k := cntT_le m k
      rw [ticksI_length] at HO
      generalize hn : cntT m k = n at *
      have HN := Lib.hid hn
      clear hn
      cases hb : m.testBit k
      · have HE := Lib.hid (ticksI_no hb)
        rw [hb] at HH
        clear hb
        go_wp2_with (go_at_call 52; refine (HH.out _).mono ?_; rintro e w' ⟨rfl, rfl⟩)
        go_roundg (64 - (k + 1))
        case measure => have := HG.out; omega
        case rel => exact ⟨k + 1, by omega, rfl, by go_num, HB.out, by rw [HE.out, ticksI_length, HN.out]; exact HO.out⟩
      · have HE := Lib.hid (ticksI_yes hb)
        rw [hb] at HH
        clear hb
        have hsz := HB.out.size
        go_wp2_with (first
          | (go_at_call 52; refine (HH.out _).mono ?_; rintro e w' ⟨rfl, rfl⟩)
          | (at_builtin; refine wpList_append_own _ rfl _ _ 29 rfl w.heap.size 3 i0 (.int .i64 0) 1 8 Try.underlying29 hi hz0 hz1 hz2 rfl (by decide) _ _ _ rfl (HO.out.alloc _) ⟨wr.heap.size, 0, none⟩ 1 1 [.int .i64 k] rfl rfl ?c1 ?c2 ?c3 ?c4 ?c5 ?_))
        case c1 =>
          intro j u hj
          rcases j with _ | j
          · simpa [Addr.add] using hj
          · simp at hj
        case c2 => intro u hu; simp at hu; subst hu; rfl
        case c3 => unfold maxLen; omega
        case c4 => omega
        case c5 => simp; omega
        intro v2 w2 hown2 hgrow _
        have HB2 := Lib.hid ((HB.out.alloc hsz _).trans (below_grown4 hgrow (by simp; omega) (own_base4 HO.out)))
        have HO2 := Lib.hid hown2
        clear hown2 hgrow hsz
        go_wp2
        go_roundg (64 - (k + 1))
        case measure => have := HG.out; omega
        case rel =>
          refine ⟨k + 1, by omega, rfl, by go_num, HB2.out, ?_⟩
          have e := HO2.out
          rw [HE.out, List.length_append, ticksI_length, HN.out, List.map_append]
          exact e
    · have hk64 : k = 64 := by omega
      subst hk64
      have HR := Lib.hid (ints_of_own HO.out (by rw [ticksI_length]; have := cntT_le m 64; omega))
      go_wp2
      go_ret
      exact ⟨_, rfl, HR.out, HB.out⟩

theorem refCount_any (m : Nat) (w : World) (hm : m < 18446744073709551616) : Calls Try.prog 57 #[.int .u64 m] w (RetB (.int .i64 (cnt m)) w) := by
  have HT := Lib.hid (refTicks_any m w hm)
  go_enter Try.func57, Try.ntmps57
  go_wp2_with fail
  refine HT.out.mono ?_
  rintro e w1 ⟨v, rfl, hi, hb⟩
  obtain ⟨A, c, rfl, _, _⟩ := hi
  have HB := Lib.hid hb
  clear hb
  rw [ticksI_length]
  go_wp2
  go_ret
  exact ⟨rfl, HB.out⟩
end Go.Proofs.Ytincbilobmhgeaa

/-
  Numbers alone: how many bits are set, by adding fields side by side.
  Conditions: the number is below 2^64.
-/
set_option linter.unusedVariables false
namespace Go.Proofs.Ytincbilobmhgeaa

/-- Bits, from the lowest on. -/
def cntL : Nat → Nat → Nat
  | 0, _ => 0
  | k + 1, m => m % 2 + cntL k (m / 2)

theorem cntL_succ : ∀ (k m : Nat), cntL (k + 1) m = cntL k m + (m.testBit k).toNat
  | 0, m => by
    simp only [cntL, Nat.testBit_zero]
    rcases Nat.mod_two_eq_zero_or_one m with h | h <;> simp [h]
  | k + 1, m => by
    have ih := cntL_succ k (m / 2)
    rw [cntL, ih, Nat.testBit_succ]
    simp only [cntL]
    omega
theorem cntT_L (m k : Nat) : cntT m k = cntL k m := by
  induction k with
  | zero => rfl
  | succ k ih => rw [cntT_succ, cntL_succ, ih]
theorem cntL_byte (k m : Nat) : cntL (k + 8) m = cntL 8 (m % 256) + cntL k (m / 256) := by
  simp only [cntL, Nat.div_div_eq_div_mul, Nat.reduceMul]
  omega

theorem and_split {a k : Nat} (ha : a < 256) (hk : k < 256) (r K : Nat) : (a + 256 * r) &&& (k + 256 * K) = (a &&& k) + 256 * (r &&& K) := by
  have h1 := @Nat.and_div_two_pow (a + 256 * r) (k + 256 * K) 8
  have h2 := @Nat.and_mod_two_pow (a + 256 * r) (k + 256 * K) 8
  simp only [Nat.reducePow] at h1 h2
  have e1 : (a + 256 * r) / 256 = r := by omega
  have e2 : (k + 256 * K) / 256 = K := by omega
  have e3 : (a + 256 * r) % 256 = a := by omega
  have e4 : (k + 256 * K) % 256 = k := by omega
  rw [e1, e2] at h1
  rw [e3, e4] at h2
  omega

def S1 (m K : Nat) : Nat := (m / 2 &&& K) + (m &&& K)
def S2 (m K : Nat) : Nat := (m / 4 &&& K) + (m &&& K)
def S3 (m K : Nat) : Nat := (m / 16 + m) &&& K
def s1 (b : Nat) : Nat := (b / 2 &&& 85) + (b &&& 85)
def s2 (b : Nat) : Nat := (b / 4 &&& 51) + (b &&& 51)
def s3 (b : Nat) : Nat := (b / 16 + b) &&& 15

theorem d1 : ∀ b, b < 256 → ∀ e, e < 2 → (b / 2 + 128 * e) &&& 85 = b / 2 &&& 85 := by decide +kernel
theorem d2 : ∀ b, b < 256 → ∀ e, e < 4 → (b / 4 + 64 * e) &&& 51 = b / 4 &&& 51 := by decide +kernel
theorem d3 : ∀ b, b < 69 → ∀ e, e < 5 → (b / 16 + b + 16 * e) &&& 15 = (b / 16 + b) &&& 15 := by decide +kernel
theorem d4 : ∀ b, b < 256 → s1 b < 256 ∧ s2 (s1 b) < 69 ∧ s2 (s1 b) % 16 < 5 ∧ s3 (s2 (s1 b)) = cntL 8 b ∧ cntL 8 b < 9 := by decide +kernel

theorem S1_byte {b : Nat} (hb : b < 256) (r K : Nat) : S1 (b + 256 * r) (85 + 256 * K) = s1 b + 256 * S1 r K := by
  have e : (b + 256 * r) / 2 = (b / 2 + 128 * (r % 2)) + 256 * (r / 2) := by omega
  unfold S1 s1
  rw [e, and_split (by omega) (by decide), and_split hb (by decide), d1 b hb _ (by omega)]
  omega
theorem S2_byte {b : Nat} (hb : b < 256) (r K : Nat) : S2 (b + 256 * r) (51 + 256 * K) = s2 b + 256 * S2 r K := by
  have e : (b + 256 * r) / 4 = (b / 4 + 64 * (r % 4)) + 256 * (r / 4) := by omega
  unfold S2 s2
  rw [e, and_split (by omega) (by decide), and_split hb (by decide), d2 b hb _ (by omega)]
  omega
theorem S3_byte {b : Nat} (hb : b < 69) (r K : Nat) (hr : r % 16 < 5) : S3 (b + 256 * r) (15 + 256 * K) = s3 b + 256 * S3 r K := by
  have e : (b + 256 * r) / 16 + (b + 256 * r) = (b / 16 + b + 16 * (r % 16)) + 256 * (r / 16 + r) := by omega
  unfold S3 s3
  rw [e, and_split (by omega) (by decide), d3 b hb _ hr]

def kk (c : Nat) : Nat → Nat
  | 0 => 0
  | n + 1 => c + 256 * kk c n
def cB (m : Nat) : Nat := cntL 8 (m % 256)
theorem cB_lt (m : Nat) : cB m < 9 := (d4 _ (Nat.mod_lt _ (by decide))).2.2.2.2
theorem cntL_cB (k m : Nat) : cntL (k + 8) m = cB m + cntL k (m / 256) := cntL_byte k m
def dig : Nat → Nat → Nat
  | 0, _ => 0
  | n + 1, m => cB m + 256 * dig n (m / 256)
theorem dig_zero (m : Nat) : dig 0 m = 0 := rfl
theorem dig_succ (n m : Nat) : dig (n + 1) m = cB m + 256 * dig n (m / 256) := rfl

theorem fields : ∀ (n m : Nat), m < 256 ^ n → S2 (S1 m (kk 85 n)) (kk 51 n) % 16 < 5 ∧ S3 (S2 (S1 m (kk 85 n)) (kk 51 n)) (kk 15 n) = dig n m
  | 0, m, h => by
    have : m = 0 := by simpa using h
    subst this
    decide
  | n + 1, m, h => by
    have hr : m / 256 < 256 ^ n := by rw [Nat.pow_succ] at h; omega
    obtain ⟨i1, i2⟩ := fields n (m / 256) hr
    have e : m = m % 256 + 256 * (m / 256) := by omega
    have hb : m % 256 < 256 := by omega
    obtain ⟨q1, q2, q3, q4, _⟩ := d4 _ hb
    have k1 : kk 85 (n + 1) = 85 + 256 * kk 85 n := rfl
    have k2 : kk 51 (n + 1) = 51 + 256 * kk 51 n := rfl
    have k3 : kk 15 (n + 1) = 15 + 256 * kk 15 n := rfl
    have z : S2 (S1 m (kk 85 (n + 1))) (kk 51 (n + 1)) = s2 (s1 (m % 256)) + 256 * S2 (S1 (m / 256) (kk 85 n)) (kk 51 n) := by
      rw [k1, k2]
      conv => lhs; rw [e]
      rw [S1_byte hb, S2_byte q1]
    rw [z, k3, S3_byte q2 _ _ i1, i2, q4]
    exact ⟨by omega, rfl⟩

/-- Digits to the base 256. -/
def p8 (c0 c1 c2 c3 c4 c5 c6 c7 : Nat) : Nat := c0 + 256 * (c1 + 256 * (c2 + 256 * (c3 + 256 * (c4 + 256 * (c5 + 256 * (c6 + 256 * c7))))))
theorem p8_lt (B c0 c1 c2 c3 c4 c5 c6 c7 : Nat) (h0 : c0 ≤ B) (h1 : c1 ≤ B) (h2 : c2 ≤ B) (h3 : c3 ≤ B) (h4 : c4 ≤ B) (h5 : c5 ≤ B) (h6 : c6 ≤ B) (h7 : c7 ≤ B) :
    p8 c0 c1 c2 c3 c4 c5 c6 c7 ≤ 72340172838076673 * B := by
  unfold p8
  omega
theorem p8_add (a0 a1 a2 a3 a4 a5 a6 a7 b0 b1 b2 b3 b4 b5 b6 b7 : Nat) :
    p8 a0 a1 a2 a3 a4 a5 a6 a7 + p8 b0 b1 b2 b3 b4 b5 b6 b7 = p8 (a0 + b0) (a1 + b1) (a2 + b2) (a3 + b3) (a4 + b4) (a5 + b5) (a6 + b6) (a7 + b7) := by
  unfold p8
  omega
theorem p8_shift (c0 c1 c2 c3 c4 c5 c6 c7 : Nat) (h0 : c0 < 256) : p8 c0 c1 c2 c3 c4 c5 c6 c7 / 256 = p8 c1 c2 c3 c4 c5 c6 c7 0 := by
  unfold p8
  omega
theorem p8_low (c0 c1 c2 c3 c4 c5 c6 c7 : Nat) (h0 : c0 < 128) : p8 c0 c1 c2 c3 c4 c5 c6 c7 % 128 = c0 := by
  unfold p8
  omega

theorem sum8 (c0 c1 c2 c3 c4 c5 c6 c7 : Nat) (h0 : c0 < 9) (h1 : c1 < 9) (h2 : c2 < 9) (h3 : c3 < 9) (h4 : c4 < 9) (h5 : c5 < 9) (h6 : c6 < 9) (h7 : c7 < 9) :
    ∃ x4 x5 x6 : Nat, p8 c0 c1 c2 c3 c4 c5 c6 c7 < 1152921504606846976 ∧ p8 c0 c1 c2 c3 c4 c5 c6 c7 + p8 c0 c1 c2 c3 c4 c5 c6 c7 / 256 = x4 ∧
      x4 < 2305843009213693952 ∧ x4 + x4 / 65536 = x5 ∧ x5 < 4611686018427387904 ∧ x5 + x5 / 4294967296 = x6 ∧ x6 < 9223372036854775808 ∧ x6 % 128 = c0 + (c1 + (c2 + (c3 + (c4 + (c5 + (c6 + c7)))))) := by
  have b0 := p8_lt 8 c0 c1 c2 c3 c4 c5 c6 c7 (by omega) (by omega) (by omega) (by omega) (by omega) (by omega) (by omega) (by omega)
  have q1 := p8_shift c0 c1 c2 c3 c4 c5 c6 c7 (by omega)
  have s1 := p8_add c0 c1 c2 c3 c4 c5 c6 c7 c1 c2 c3 c4 c5 c6 c7 0
  have b1 := p8_lt 16 (c0 + c1) (c1 + c2) (c2 + c3) (c3 + c4) (c4 + c5) (c5 + c6) (c6 + c7) (c7 + 0) (by omega) (by omega) (by omega) (by omega) (by omega) (by omega) (by omega) (by omega)
  have q2 := p8_shift (c0 + c1) (c1 + c2) (c2 + c3) (c3 + c4) (c4 + c5) (c5 + c6) (c6 + c7) (c7 + 0) (by omega)
  have q3 := p8_shift (c1 + c2) (c2 + c3) (c3 + c4) (c4 + c5) (c5 + c6) (c6 + c7) (c7 + 0) 0 (by omega)
  have s2 := p8_add (c0 + c1) (c1 + c2) (c2 + c3) (c3 + c4) (c4 + c5) (c5 + c6) (c6 + c7) (c7 + 0) (c2 + c3) (c3 + c4) (c4 + c5) (c5 + c6) (c6 + c7) (c7 + 0) 0 0
  have b2 := p8_lt 32 (c0 + c1 + (c2 + c3)) (c1 + c2 + (c3 + c4)) (c2 + c3 + (c4 + c5)) (c3 + c4 + (c5 + c6)) (c4 + c5 + (c6 + c7)) (c5 + c6 + (c7 + 0)) (c6 + c7 + 0) (c7 + 0 + 0) (by omega) (by omega) (by omega) (by omega) (by omega) (by omega) (by omega) (by omega)
  have q4 := p8_shift (c0 + c1 + (c2 + c3)) (c1 + c2 + (c3 + c4)) (c2 + c3 + (c4 + c5)) (c3 + c4 + (c5 + c6)) (c4 + c5 + (c6 + c7)) (c5 + c6 + (c7 + 0)) (c6 + c7 + 0) (c7 + 0 + 0) (by omega)
  have q5 := p8_shift (c1 + c2 + (c3 + c4)) (c2 + c3 + (c4 + c5)) (c3 + c4 + (c5 + c6)) (c4 + c5 + (c6 + c7)) (c5 + c6 + (c7 + 0)) (c6 + c7 + 0) (c7 + 0 + 0) 0 (by omega)
  have q6 := p8_shift (c2 + c3 + (c4 + c5)) (c3 + c4 + (c5 + c6)) (c4 + c5 + (c6 + c7)) (c5 + c6 + (c7 + 0)) (c6 + c7 + 0) (c7 + 0 + 0) 0 0 (by omega)
  have q7 := p8_shift (c3 + c4 + (c5 + c6)) (c4 + c5 + (c6 + c7)) (c5 + c6 + (c7 + 0)) (c6 + c7 + 0) (c7 + 0 + 0) 0 0 0 (by omega)
  have s3 := p8_add (c0 + c1 + (c2 + c3)) (c1 + c2 + (c3 + c4)) (c2 + c3 + (c4 + c5)) (c3 + c4 + (c5 + c6)) (c4 + c5 + (c6 + c7)) (c5 + c6 + (c7 + 0)) (c6 + c7 + 0) (c7 + 0 + 0) (c4 + c5 + (c6 + c7)) (c5 + c6 + (c7 + 0)) (c6 + c7 + 0) (c7 + 0 + 0) 0 0 0 0
  have lo := p8_low (c0 + c1 + (c2 + c3) + (c4 + c5 + (c6 + c7))) (c1 + c2 + (c3 + c4) + (c5 + c6 + (c7 + 0))) (c2 + c3 + (c4 + c5) + (c6 + c7 + 0)) (c3 + c4 + (c5 + c6) + (c7 + 0 + 0)) (c4 + c5 + (c6 + c7) + 0) (c5 + c6 + (c7 + 0) + 0) (c6 + c7 + 0 + 0) (c7 + 0 + 0 + 0) (by omega)
  rw [← q1] at s1
  rw [← s1] at q2 b1
  have h65 : ∀ x : Nat, x / 256 / 256 = x / 65536 := fun x => by rw [Nat.div_div_eq_div_mul]
  have h43 : ∀ x : Nat, x / 256 / 256 / 256 / 256 = x / 4294967296 := fun x => by rw [Nat.div_div_eq_div_mul, Nat.div_div_eq_div_mul, Nat.div_div_eq_div_mul]
  rw [← q2, h65] at q3
  rw [← s1, ← q3] at s2
  rw [← s2] at q4 b2
  rw [← q4] at q5
  rw [← q5] at q6
  rw [← q6, h43] at q7
  rw [← s2, ← q7] at s3
  rw [← s3] at lo
  refine ⟨_, _, _, by omega, rfl, by omega, rfl, by omega, rfl, ?_, ?_⟩
  · have := Nat.div_le_self (p8 c0 c1 c2 c3 c4 c5 c6 c7 + p8 c0 c1 c2 c3 c4 c5 c6 c7 / 256 + (p8 c0 c1 c2 c3 c4 c5 c6 c7 + p8 c0 c1 c2 c3 c4 c5 c6 c7 / 256) / 65536) 4294967296
    generalize (p8 c0 c1 c2 c3 c4 c5 c6 c7 + p8 c0 c1 c2 c3 c4 c5 c6 c7 / 256 + (p8 c0 c1 c2 c3 c4 c5 c6 c7 + p8 c0 c1 c2 c3 c4 c5 c6 c7 / 256) / 65536) / 4294967296 = u at *
    omega
  · rw [lo]
    omega

theorem cntL_zero (m : Nat) : cntL 0 m = 0 := rfl
theorem cnt_bytes (m : Nat) : ∃ c0 c1 c2 c3 c4 c5 c6 c7 : Nat, (c0 < 9 ∧ c1 < 9 ∧ c2 < 9 ∧ c3 < 9 ∧ c4 < 9 ∧ c5 < 9 ∧ c6 < 9 ∧ c7 < 9) ∧
    dig 8 m = p8 c0 c1 c2 c3 c4 c5 c6 c7 ∧ cnt m = c0 + (c1 + (c2 + (c3 + (c4 + (c5 + (c6 + c7)))))) := by
  have e : cnt m = cntL 64 m := cntT_L m 64
  rw [e]
  have a0 := cntL_cB 56 m
  have a1 := cntL_cB 48 (m / 256)
  have a2 := cntL_cB 40 (m / 256 / 256)
  have a3 := cntL_cB 32 (m / 256 / 256 / 256)
  have a4 := cntL_cB 24 (m / 256 / 256 / 256 / 256)
  have a5 := cntL_cB 16 (m / 256 / 256 / 256 / 256 / 256)
  have a6 := cntL_cB 8 (m / 256 / 256 / 256 / 256 / 256 / 256)
  have a7 := cntL_cB 0 (m / 256 / 256 / 256 / 256 / 256 / 256 / 256)
  rw [cntL_zero] at a7
  have b0 := dig_succ 7 m
  have b1 := dig_succ 6 (m / 256)
  have b2 := dig_succ 5 (m / 256 / 256)
  have b3 := dig_succ 4 (m / 256 / 256 / 256)
  have b4 := dig_succ 3 (m / 256 / 256 / 256 / 256)
  have b5 := dig_succ 2 (m / 256 / 256 / 256 / 256 / 256)
  have b6 := dig_succ 1 (m / 256 / 256 / 256 / 256 / 256 / 256)
  have b7 := dig_succ 0 (m / 256 / 256 / 256 / 256 / 256 / 256 / 256)
  rw [dig_zero] at b7
  refine ⟨cB m, cB (m / 256), cB (m / 256 / 256), cB (m / 256 / 256 / 256), cB (m / 256 / 256 / 256 / 256), cB (m / 256 / 256 / 256 / 256 / 256), cB (m / 256 / 256 / 256 / 256 / 256 / 256), cB (m / 256 / 256 / 256 / 256 / 256 / 256 / 256), ⟨cB_lt _, cB_lt _, cB_lt _, cB_lt _, cB_lt _, cB_lt _, cB_lt _, cB_lt _⟩, ?_, ?_⟩
  · rw [b0, b1, b2, b3, b4, b5, b6, b7]
    unfold p8
    rw [Nat.mul_zero, Nat.add_zero]
  · simp only [Nat.reduceAdd] at a0 a1 a2 a3 a4 a5 a6 a7
    rw [a0, a1, a2, a3, a4, a5, a6, a7]
    rfl

/-- All of it. -/
theorem ones_nat (m : Nat) (hm : m < 18446744073709551616) : ∃ x1 x2 x3 x4 x5 x6 : Nat,
    (m / 2 &&& 6148914691236517205) + (m &&& 6148914691236517205) = x1 ∧ (x1 / 4 &&& 3689348814741910323) + (x1 &&& 3689348814741910323) = x2 ∧
    (x2 / 16 + x2) &&& 1085102592571150095 = x3 ∧ x3 < 1152921504606846976 ∧ x3 + x3 / 256 = x4 ∧ x4 < 2305843009213693952 ∧ x4 + x4 / 65536 = x5 ∧ x5 < 4611686018427387904 ∧
    x5 + x5 / 4294967296 = x6 ∧ x6 < 9223372036854775808 ∧ x6 % 128 = cnt m := by
  have hf := (fields 8 m (by simpa using hm)).2
  have k1 : kk 85 8 = 6148914691236517205 := by decide
  have k2 : kk 51 8 = 3689348814741910323 := by decide
  have k3 : kk 15 8 = 1085102592571150095 := by decide
  rw [k1, k2, k3] at hf
  obtain ⟨c0, c1, c2, c3, c4, c5, c6, c7, ⟨h0, h1, h2, h3, h4, h5, h6, h7⟩, hd, hc⟩ := cnt_bytes m
  obtain ⟨x4, x5, x6, g1, g2, g3, g4, g5, g6, g7, g8⟩ := sum8 c0 c1 c2 c3 c4 c5 c6 c7 h0 h1 h2 h3 h4 h5 h6 h7
  rw [← hd] at g1 g2
  rw [← hc] at g8
  exact ⟨_, _, dig 8 m, x4, x5, x6, rfl, rfl, hf, g1, g2, g3, g4, g5, g6, g7, g8⟩
end Go.Proofs.Ytincbilobmhgeaa

/-
  math/bits.OnesCount64, and Count, Lowest and Highest of the program.
  Conditions: the numbers are of their kinds.
-/
set_option linter.unusedVariables false
namespace Go.Proofs.Ytincbilobmhgeaa
open Go.RowKit

theorem wrapU (n : Nat) (h : n < 18446744073709551616) : IntKind.u64.wrap (n : Int) = (n : Int) := by
  rw [IntKind.wrap_u64]; omega
theorem andU (a b : Nat) (ha : a < 18446744073709551616) (hb : b < 18446744073709551616) : bits .and .u64 (a : Int) (b : Int) = ((a &&& b : Nat) : Int) := bits_and_u64_nat a b ha hb
theorem mask127 (x : Nat) (h : x < 9223372036854775808) : bits .and .i64 (x : Int) 127 = ((x % 128 : Nat) : Int) := by
  have h1 : (BitVec.ofInt 64 (x : Int)).toNat = x := by
    rw [BitVec.ofInt_natCast, BitVec.toNat_ofNat]; exact Nat.mod_eq_of_lt (by omega)
  have h2 : (BitVec.ofInt 64 (127 : Int)).toNat = 127 := by decide
  show IntKind.i64.wrap ((BitVec.ofInt 64 (x : Int) &&& BitVec.ofInt 64 127).toNat : Int) = _
  have h3 : x &&& 127 = x % 128 := Nat.and_two_pow_sub_one_eq_mod x 7
  rw [BitVec.toNat_and, h1, h2, h3]
  exact IntWalk.i64_in _ (by omega)

structure Ones (m : Nat) (a1 a2 x1 b1 b2 x2 y x3 x4 x5 x6 : Int) : Prop where
  e1 : bits .and .u64 ((m : Int) / 2) 6148914691236517205 = a1
  e2 : bits .and .u64 (m : Int) 6148914691236517205 = a2
  e3 : IntKind.u64.wrap (a1 + a2) = x1
  e4 : bits .and .u64 (x1 / 4) 3689348814741910323 = b1
  e5 : bits .and .u64 x1 3689348814741910323 = b2
  e6 : IntKind.u64.wrap (b1 + b2) = x2
  e7 : IntKind.u64.wrap (x2 / 16 + x2) = y
  e8 : bits .and .u64 y 1085102592571150095 = x3
  e9 : IntKind.u64.wrap (x3 + x3 / 256) = x4
  e10 : IntKind.u64.wrap (x4 + x4 / 65536) = x5
  e11 : IntKind.u64.wrap (x5 + x5 / 4294967296) = x6
  e12 : IntKind.i64.wrap x6 = x6
  e13 : bits .and .i64 x6 127 = (cnt m : Int)

theorem and_le_r (a K : Nat) : a &&& K ≤ K := Nat.and_le_right

theorem ones_words (m : Nat) (hm : m < 18446744073709551616) : ∃ a1 a2 x1 b1 b2 x2 y x3 x4 x5 x6 : Int, Ones m a1 a2 x1 b1 b2 x2 y x3 x4 x5 x6 := by
  obtain ⟨x1, x2, x3, x4, x5, x6, h1, h2, h3, g3, h4, g4, h5, g5, h6, g6, h7⟩ := ones_nat m hm
  have l1 := and_le_r (m / 2) 6148914691236517205
  have l2 := and_le_r m 6148914691236517205
  have l3 := and_le_r (x1 / 4) 3689348814741910323
  have l4 := and_le_r x1 3689348814741910323
  have p1 := andU (m / 2) 6148914691236517205 (by omega) (by decide)
  have p2 := andU m 6148914691236517205 hm (by decide)
  have p3 := andU (x1 / 4) 3689348814741910323 (by omega) (by decide)
  have p4 := andU x1 3689348814741910323 (by omega) (by decide)
  have p5 := andU (x2 / 16 + x2) 1085102592571150095 (by omega) (by decide)
  refine ⟨_, _, x1, _, _, x2, ((x2 / 16 + x2 : Nat) : Int), x3, x4, x5, x6, p1, p2, ?_, p3, p4, ?_, ?_, ?_, ?_, ?_, ?_, ?_, ?_⟩
  · rw [← h1]; exact wrapU _ (by omega)
  · rw [← h2]; exact wrapU _ (by omega)
  · exact wrapU (x2 / 16 + x2) (by omega)
  · rw [← h3]; exact p5
  · rw [← h4]; exact wrapU (x3 + x3 / 256) (by omega)
  · rw [← h5]; exact wrapU (x4 + x4 / 65536) (by omega)
  · rw [← h6]; exact wrapU (x5 + x5 / 4294967296) (by omega)
  · exact IntWalk.i64_in _ (by omega)
  · rw [mask127 _ g6, h7]

set_option maxHeartbeats 1000000 in
theorem ones_any (m : Nat) (w : World) (hm : m < 18446744073709551616) : Calls Try.prog 62 #[.int .u64 m] w (Ret (.int .i64 (cnt m)) w) := by
  obtain ⟨a1, a2, x1, b1, b2, x2, y, x3, x4, x5, x6, e1, e2, e3, e4, e5, e6, e7, e8, e9, e10, e11, e12, e13⟩ := ones_words m hm
  generalize cnt m = c at *
  go_enter Try.func62, Try.ntmps62
  go_wp2
  go_ret
  exact ⟨rfl, rfl⟩

set_option maxHeartbeats 1000000 in
theorem count_any (m : Nat) (w : World) (hm : m < 18446744073709551616) : Calls Try.prog 51 #[.int .u64 m] w (Ret (.int .i64 (cnt m)) w) := by
  have HO := Lib.hid (ones_any m w hm)
  go_enter Try.func51, Try.ntmps51
  go_wp2_with (go_at_call 62; refine HO.out.mono ?_; rintro e w' ⟨rfl, rfl⟩)
  go_ret
  exact ⟨rfl, rfl⟩

/-- How many of them a k asks for. -/
def takN (m : Nat) (k : Int) : Nat := (min (max k 0) (cnt m)).toNat
theorem takN_le (m : Nat) (k : Int) : takN m k ≤ cnt m := by unfold takN; omega
theorem high_lt (m k : Nat) : highN m k < 18446744073709551616 := setP_lt _
theorem low_lt (m k : Nat) : lowN m k < 18446744073709551616 := setP_lt _

theorem andNot_word (a b : Nat) (ha : a < 18446744073709551616) (hb : b < 18446744073709551616) : bits .andNot .u64 (a : Int) (b : Int) = (lessN a b : Int) := by
  rw [u64_andNot_nat a b ha hb]
  congr 1
  have h1 : a &&& (18446744073709551615 - b) < 18446744073709551616 := Nat.lt_of_le_of_lt Nat.and_le_left ha
  refine eq_setP h1 (fun j hj => ?_)
  have e : 18446744073709551615 - b = 2 ^ 64 - (b + 1) := by rw [two64]; omega
  rw [Nat.testBit_and, e, Nat.testBit_two_pow_sub_succ (by rw [two64]; exact hb)]
  simp [hj]
theorem clear_word {m i : Nat} (hi : i < cnt m) : bits .and .u64 (highN m i : Int) (IntKind.u64.wrap ((highN m i : Int) - 1)) = (highN m (i + 1) : Int) := by
  have h0 : highN m i ≠ 0 := by
    obtain ⟨k, hk, hb, hc⟩ := tick_ex hi
    exact ne_zero_of (j := k) (by unfold highN; rw [setP_bit]; simp [hk, hb, hc])
  have h1 := high_lt m i
  have e : IntKind.u64.wrap ((highN m i : Int) - 1) = ((highN m i - 1 : Nat) : Int) := by rw [IntKind.wrap_u64]; omega
  rw [e, bits_and_u64_nat _ _ h1 (by omega), high_clear hi]

def LowRel (m t : Nat) (s i : Value) : Prop := ∃ j : Nat, j ≤ t ∧ i = .int .i64 j ∧ s = .int .u64 (highN m j)

/-- What Highest leaves. -/
def leftN (m : Nat) (k : Int) : Nat := cnt m - takN m k
end Go.Proofs.Ytincbilobmhgeaa
