/-
  Ticks of a set as a list: the program's and the document's, and the document's Count.
  Conditions: the numbers are of their kinds.
-/
import Derived.Test.YtpfpojehcjmfnaaM02
import Derived.WalkKit
import Derived.WalkLawsBesides
import Derived.Below
import Derived.Lib.Hide
import Derived.Handy
import Derived.ProofKit
import Derived.Deep.LoopGhost
import Derived.Deep.QuietTactic
import Derived.BigQuiet
import Derived.IntWalk
import Derived.LoopTactic
import Derived.Laws.MakeOwn
import Derived.Laws.Rows
import Derived.OpenShut
import Derived.Test.YtpfpojehcjmfnaaM01
import Derived.Laws.BitsAllLaws
import Derived.Shelf.RegionOpenPlain
import Derived.Shelf.SlSortCmp.QuietGrown
import Derived.OwnWalk

/-
  A slice that reads as a list of ints; what calls answer.
  Conditions: none.
-/
set_option linter.unusedVariables false
namespace Go.Proofs.Ytpfpojehcjmfnaa
open Go.RowKit

/-- The slice value 'v' reads as the numbers 'xs'; it lies in memory that is there. -/
def IntsAt (W : World) (v : Value) (xs : List Int) : Prop :=
  ∃ A c, v = .slice A xs.length c ∧ xs.length ≤ 9223372036854775807 ∧
    (0 < xs.length → ∃ b off, A = some ⟨b, off, none⟩ ∧ b < W.heap.size ∧ ∀ (j : Nat) (x : Int), xs[j]? = some x → W.cell? ⟨b, off + j, none⟩ = some (.int .i64 x))

theorem IntsAt.nil (W : World) : IntsAt W (.slice none 0 0) [] := ⟨none, 0, rfl, by decide, fun h => absurd h (by decide)⟩

theorem IntsAt.keep {W W' : World} {v : Value} {xs : List Int} (h : IntsAt W v xs) (hb : Below W.heap.size W W') : IntsAt W' v xs := by
  obtain ⟨A, c, h1, h2, h3⟩ := h
  refine ⟨A, c, h1, h2, fun hn => ?_⟩
  obtain ⟨b, off, e, hlt, hc⟩ := h3 hn
  exact ⟨b, off, e, Nat.lt_of_lt_of_le hlt hb.size, fun j x hx => (hb.cell (p := ⟨b, off + j, none⟩) hlt).trans (hc j x hx)⟩
end Go.Proofs.Ytpfpojehcjmfnaa

/-
  A row of ints that the call made: read, stored into, kept; a call in a region that draws.
  Conditions: none.
-/
set_option linter.unusedVariables false
namespace Go.Proofs.Ytpfpojehcjmfnaa
open Go.RowKit

/-- All 0. -/
def zeros (n : Nat) : List Int := List.replicate n 0

def rowOf (xs : List Int) : Array Value := (xs.map (Value.int .i64)).toArray
/-- Block g is just the numbers xs, none frozen. -/
def RowAt (W : World) (g : Nat) (xs : List Int) : Prop := W.heap[g]? = some (.cells (rowOf xs) 3 (0, 0))

theorem rowOf_get (xs : List Int) (j : Nat) : (rowOf xs)[j]? = (xs[j]?).map (Value.int .i64) := by simp [rowOf]
theorem rowOf_set (xs : List Int) (j : Nat) (x : Int) : (rowOf xs).setIfInBounds j (.int .i64 x) = rowOf (xs.set j x) := by
  simp [rowOf, List.map_set]

theorem RowAt.lt {W : World} {g : Nat} {xs : List Int} (h : RowAt W g xs) : g < W.heap.size := by
  rcases Nat.lt_or_ge g W.heap.size with hlt | hge
  · exact hlt
  · unfold RowAt at h; rw [Array.getElem?_eq_none hge] at h; cases h
theorem RowAt.cell {W : World} {g : Nat} {xs : List Int} (h : RowAt W g xs) {j : Nat} {x : Int} (hx : xs[j]? = some x) : W.cell? ⟨g, j, none⟩ = some (.int .i64 x) := by
  rw [cell_of_row W g j _ _ (0, 0) h, rowOf_get, hx]; rfl
theorem RowAt.frozen {W : World} {g : Nat} {xs : List Int} (h : RowAt W g xs) (j : Nat) : W.frozen? ⟨g, j, none⟩ = false := by
  unfold RowAt at h
  simp [World.frozen?, h]
theorem RowAt.drewN {W : World} {g : Nat} {xs : List Int} (h : RowAt W g xs) (n : Nat) : RowAt (W.drewN n) g xs := h
theorem RowAt.alloc {W : World} {g : Nat} {xs : List Int} (h : RowAt W g xs) (o : Obj) : RowAt (W.alloc o) g xs := (Below.heap_alloc W o g h.lt).trans h
theorem RowAt.set_ {W : World} {g : Nat} {xs : List Int} (h : RowAt W g xs) (j : Nat) (x : Int) : RowAt (W.setCell ⟨g, j, none⟩ (.int .i64 x)) g (xs.set j x) := by
  unfold RowAt at h ⊢
  rw [← rowOf_set]
  simp [World.setCell, Array.getElem?_modify, h]
theorem RowAt.far {W : World} {g : Nat} {xs : List Int} (h : RowAt W g xs) {p : Addr} (hp : g ≠ p.block) (u : Value) : RowAt (W.setCell p u) g xs := (Below.heap_setCell W p u g hp).trans h
theorem RowAt.below {B : Nat} {W W' : World} {g : Nat} {xs : List Int} (h : RowAt W g xs) (hb : Below B W W') (hg : g < B) : RowAt W' g xs := (hb.block g hg).trans h
theorem RowAt.ints {W : World} {g : Nat} {xs : List Int} (h : RowAt W g xs) (hl : xs.length ≤ 9223372036854775807) (c : Nat) : IntsAt W (.slice (some ⟨g, 0, none⟩) xs.length c) xs :=
  ⟨_, _, rfl, hl, fun _ => ⟨g, 0, rfl, h.lt, fun j x hx => by rw [Nat.zero_add]; exact h.cell hx⟩⟩

theorem madeCells_one (z : Value) (n : Nat) : madeCells #[z] n = (List.replicate n z).toArray := by
  apply Array.toList_inj.1
  rw [List.toList_toArray]
  apply List.ext_getElem?
  intro j
  by_cases hj : j < n
  · simp [madeCells, hj, Nat.mod_one]
  · simp [madeCells, hj]

/-- make([]int, n). -/
theorem mk_ints (W : World) (n : Nat) (h : n ≤ 1000) : (Instr.makeSlice 56 (.int .i64 (n : Int)) (.int .i64 (n : Int))).run Try.prog W = .ok (.slice (some ⟨W.heap.size, 0, none⟩) n n) (W.alloc (.cells (rowOf (zeros n)) 3)) := by
  obtain ⟨i, hi, e⟩ := Option.map_eq_some_iff.1 Try.infoInt
  simp only [Prod.mk.injEq] at e
  obtain ⟨e1, e2, e3⟩ := e
  have hr := run_make (P := Try.prog) W 56 3 i (.int .i64 0) Try.underlying56 hi e1 .i64 .i64 n n (by omega) (Int.le_refl _) (by rw [e3]; omega) (by omega)
  rw [hr, e2]
  simp only [Int.toNat_natCast, Nat.mul_one]
  rw [show (Value.int .i64 0).cells = #[.int .i64 0] from rfl, madeCells_one]
  simp [rowOf, zeros]

theorem quiet_ret {P : Program} {f : FuncId} {args : Array Value} {w : World} {n : Nat} {v : Value} (h : Calls P f args (w.drewN n) (Ret v (w.drewN n))) :
    Calls P f args (w.drewN n) fun e w'' => e = .returned v ∧ ∃ m, w'' = w.drewN m := h.mono fun _ _ ⟨he, hm⟩ => ⟨he, n, hm.symm⟩

theorem RowAt.new (W : World) (xs : List Int) : RowAt (W.alloc (.cells (rowOf xs) 3)) W.heap.size xs := heap_alloc_new W _
theorem rowAt_pushed {W W' : World} {xs : List Int} (h : W' = W.alloc (.cells (rowOf xs) 3)) : RowAt W' W.heap.size xs := by subst h; exact RowAt.new W xs
end Go.Proofs.Ytpfpojehcjmfnaa

/-
  The plain answers about a frame and a tick: length, Frame, All, inRange, Has, With.
  Conditions: the numbers are of their kinds.
-/
set_option linter.unusedVariables false
namespace Go.Proofs.Ytpfpojehcjmfnaa
open Go.RowKit

theorem ret_nat {k : IntKind} {a b : Nat} (h : a = b) : Ending.returned (.int k a) = .returned (.int k b) := by rw [h]

/-- How many ticks a frame has. -/
def frN (f : Int) : Nat := (min (max f 0) 64).toNat
theorem frN_le (f : Int) : frN f ≤ 64 := by unfold frN; omega

set_option maxHeartbeats 1000000 in
theorem length_any (f : Int) (w : World) : Calls Try.prog 87 #[.int .i64 f] w (Ret (.int .i64 (frN f)) w) := by
  go_enter Try.func87, Try.ntmps87
  go_wp2
  all_goals
    go_ret
    exact ⟨ret_int (by unfold frN; omega), rfl⟩

theorem pow_cast (k : Nat) : ((2 : Int) ^ k) = ((2 ^ k : Nat) : Int) := by simp
theorem all_word (k : Nat) (hk : k ≤ 64) : IntKind.u64.wrap (IntKind.u64.wrap (2 ^ k) - 1) = (allN k : Int) := by
  rw [pow_cast]
  unfold allN
  have h2 : 0 < 2 ^ k := Nat.two_pow_pos k
  rcases Nat.lt_or_ge k 64 with h | h
  · have h1 := pow_lt64 h
    generalize 2 ^ k = K at *
    rw [IntKind.wrap_u64, IntKind.wrap_u64]
    omega
  · have : k = 64 := by omega
    subst this
    rfl

set_option maxHeartbeats 1000000 in
theorem all_any (f : Int) (w : World) : Calls Try.prog 64 #[.int .i64 f] w (Ret (.int .u64 (allN (frN f))) w) := by
  have HL := Lib.hid (fun W => length_any f W)
  have hk := frN_le f
  generalize frN f = k at *
  go_enter Try.func64, Try.ntmps64
  go_wp2_with (go_at_call 87; refine (HL.out _).mono ?_; rintro e w' ⟨rfl, rfl⟩)
  go_ret
  exact ⟨ret_int (all_word k hk), rfl⟩

set_option maxHeartbeats 1000000 in
theorem inRange_any (t : Int) (w : World) : Calls Try.prog 96 #[.int .i64 t] w (Ret (.bool (decide (0 ≤ t ∧ t < 64))) w) := by
  by_cases h0 : 0 ≤ t
  · by_cases h1 : t < 64
    · have e : decide (0 ≤ t ∧ t < 64) = true := decide_eq_true ⟨h0, h1⟩
      rw [e]
      go_enter Try.func96, Try.ntmps96
      go_wp2
      go_ret
      exact ⟨rfl, rfl⟩
    · have e : decide (0 ≤ t ∧ t < 64) = false := decide_eq_false (fun h => h1 h.2)
      have h1' : decide (t < 64) = false := decide_eq_false h1
      rw [e]
      clear e
      go_enter Try.func96, Try.ntmps96
      go_wp2
      go_ret
      exact ⟨rfl, rfl⟩
  · have e : decide (0 ≤ t ∧ t < 64) = false := decide_eq_false (fun h => h0 h.1)
    have h1' : decide (0 ≤ t) = false := decide_eq_false h0
    rw [e]
    clear e
    go_enter Try.func96, Try.ntmps96
    go_wp2
    go_ret
    exact ⟨rfl, rfl⟩

def hasB (m : Nat) (t : Int) : Bool := decide (0 ≤ t ∧ t < 64) && m.testBit t.toNat
theorem hasB_nat {m t : Nat} (h : t < 64) : hasB m (t : Int) = m.testBit t := by
  unfold hasB
  have : decide ((0 : Int) ≤ (t : Int) ∧ (t : Int) < 64) = true := decide_eq_true ⟨by omega, by omega⟩
  rw [this, Int.toNat_natCast]
  rfl
theorem hasB_out {m : Nat} {t : Int} (h : ¬ (0 ≤ t ∧ t < 64)) : hasB m t = false := by
  unfold hasB
  rw [decide_eq_false h]
  rfl

theorem shr_bit (m t : Nat) (hm : m < 18446744073709551616) : bits BinOp.and IntKind.u64 ((m : Int) / 2 ^ t) 1 = ((m.testBit t).toNat : Int) := by
  have e1 := bits_and_u64_nat (m / 2 ^ t) 1 (Nat.lt_of_le_of_lt (Nat.div_le_self _ _) hm) (by decide)
  rw [show ((m : Int) / 2 ^ t) = ((m / 2 ^ t : Nat) : Int) by simp]
  rw [show ((1 : Nat) : Int) = 1 from rfl] at e1
  rw [e1, Nat.and_one_is_mod, Nat.testBit_eq_decide_div_mod_eq]
  rcases Nat.mod_two_eq_zero_or_one (m / 2 ^ t) with h | h <;> simp [h]
theorem shr_mod (m t : Nat) : ((m : Int) / 2 ^ t).tmod 2 = ((m.testBit t).toNat : Int) := by
  rw [Int.tmod_eq_emod_of_nonneg (by rw [show ((m : Int) / 2 ^ t) = ((m / 2 ^ t : Nat) : Int) by simp]; exact Int.natCast_nonneg _)]
  rw [show ((m : Int) / 2 ^ t % 2) = ((m / 2 ^ t % 2 : Nat) : Int) by simp, Nat.testBit_eq_decide_div_mod_eq]
  rcases Nat.mod_two_eq_zero_or_one (m / 2 ^ t) with h | h <;> simp [h]

set_option maxHeartbeats 1000000 in
theorem has_any (m : Nat) (t : Int) (w : World) (hm : m < 18446744073709551616) : Calls Try.prog 85 #[.int .u64 m, .int .i64 t] w (Ret (.bool (hasB m t)) w) := by
  have HR := Lib.hid (inRange_any t w)
  by_cases h : 0 ≤ t ∧ t < 64
  · obtain ⟨T, rfl⟩ := Int.eq_ofNat_of_zero_le h.1
    have hT : T < 64 := by omega
    rw [hasB_nat hT]
    rw [decide_eq_true h] at HR
    have e := shr_bit m T hm
    generalize m.testBit T = b at *
    clear h
    cases b
    all_goals
      simp only [Bool.toNat_true, Bool.toNat_false] at e
      go_enter Try.func85, Try.ntmps85
      go_wp2_with (go_at_call 96; refine HR.out.mono ?_; rintro e w' ⟨rfl, rfl⟩)
      go_ret
      exact ⟨rfl, rfl⟩
  · rw [hasB_out h]
    rw [decide_eq_false h] at HR
    clear h
    go_enter Try.func85, Try.ntmps85
    go_wp2_with (go_at_call 96; refine HR.out.mono ?_; rintro e w' ⟨rfl, rfl⟩)
    go_ret
    exact ⟨rfl, rfl⟩

/-- What With answers. -/
def withI (m : Nat) (t : Int) : Nat := if 0 ≤ t ∧ t < 64 then withN m t.toNat else m
theorem withI_nat {m t : Nat} (h : t < 64) : withI m (t : Int) = withN m t := by
  unfold withI
  rw [if_pos ⟨by omega, by omega⟩, Int.toNat_natCast]
theorem withI_out {m : Nat} {t : Int} (h : ¬ (0 ≤ t ∧ t < 64)) : withI m t = m := by
  unfold withI
  rw [if_neg h]
theorem withI_lt {m : Nat} {t : Int} (hm : m < 18446744073709551616) : withI m t < 18446744073709551616 := by
  by_cases h : 0 ≤ t ∧ t < 64
  · obtain ⟨T, rfl⟩ := Int.eq_ofNat_of_zero_le h.1
    rw [withI_nat (by omega)]
    exact withN_lt hm (by omega)
  · rw [withI_out h]; exact hm

theorem add_word {m t : Nat} (hm : m < 18446744073709551616) (ht : t < 64) (h : m.testBit t = false) : IntKind.u64.wrap ((m : Int) + IntKind.u64.wrap (2 ^ t)) = (withN m t : Int) := by
  have e := add_pow h
  have h1 := withN_lt hm ht
  have h2 := pow_lt64 ht
  rw [← e] at h1 ⊢
  rw [pow_cast]
  generalize 2 ^ t = K at *
  rw [IntKind.wrap_u64, IntKind.wrap_u64]
  omega
theorem or_word {m t : Nat} (hm : m < 18446744073709551616) (ht : t < 64) : bits BinOp.or IntKind.u64 (m : Int) (IntKind.u64.wrap (2 ^ t)) = (withN m t : Int) := by
  have h2 := pow_lt64 ht
  rw [pow_cast]
  have e : IntKind.u64.wrap ((2 ^ t : Nat) : Int) = ((2 ^ t : Nat) : Int) := by
    generalize 2 ^ t = K at *
    rw [IntKind.wrap_u64]
    omega
  rw [e, bits_or_u64_nat _ _ hm h2]
  rfl

/-- What a division by the frame, rounded down, leaves. -/
def modN (n : Int) (f : Nat) : Nat := (n % (f : Int)).toNat
theorem modN_cast {n : Int} {f : Nat} (h : 0 < f) : (modN n f : Int) = n % (f : Int) := by
  unfold modN
  exact Int.toNat_of_nonneg (Int.emod_nonneg _ (by omega))
theorem modN_lt {n : Int} {f : Nat} (h : 0 < f) : modN n f < f := by
  have h1 := modN_cast (n := n) h
  have := Int.emod_lt_of_pos n (show (0 : Int) < (f : Int) by omega)
  omega
theorem tmod_cases (n : Int) {f : Nat} (h : 0 < f) : (0 ≤ n.tmod f ∧ n.tmod f = modN n f) ∨ (n.tmod f < 0 ∧ n.tmod f + f = modN n f) := by
  rw [modN_cast h]
  rw [Int.tmod_eq_emod]
  by_cases h0 : 0 ≤ n ∨ (f : Int) ∣ n
  · rw [if_pos h0]
    left
    have := Int.emod_nonneg n (show (f : Int) ≠ 0 by omega)
    omega
  · rw [if_neg h0]
    right
    have := Int.emod_lt_of_pos n (show (0 : Int) < (f : Int) by omega)
    simp
    omega
theorem tmod_bound (n : Int) {f : Nat} (h : 0 < f) (hf : f ≤ 64) : -64 ≤ n.tmod f ∧ n.tmod f < 64 := by
  have := modN_lt (n := n) h
  rcases tmod_cases n h with h1 | h1 <;> omega

theorem wrap64_small4 {n : Int} (h : -4611686018427387904 ≤ n) (h1 : n ≤ 4611686018427387904) : wrap64 n = n := by
  unfold wrap64
  omega
theorem modulo_word (n : Int) (f : Nat) (h0 : 0 < f) (hf : f ≤ 64) : (wrap64 (n.tmod f + f)).tmod f = modN n f := by
  have hc := tmod_cases n h0
  have hb := tmod_bound n h0 hf
  have hl := modN_lt (n := n) h0
  generalize n.tmod f = r at *
  rw [wrap64_small4 (by omega) (by omega), Int.tmod_eq_emod_of_nonneg (by omega)]
  rcases hc with ⟨h1, h2⟩ | ⟨h1, h2⟩
  · rw [Int.add_emod_right, Int.emod_eq_of_lt (by omega) (by omega)]; omega
  · rw [Int.emod_eq_of_lt (by omega) (by omega)]; omega

/-- A tick, so much later, round. -/
def laterN (f l i : Nat) : Nat := (i + l) % f
theorem later_word (f i : Nat) (k : Int) (h0 : 0 < f) (hf : f ≤ 64) (hi : i ≤ 64) : ((i : Int) + modN k f) % f = (laterN f (modN k f) i : Int) := by
  have hl := modN_lt (n := k) h0
  generalize modN k f = l at *
  unfold laterN
  simp
end Go.Proofs.Ytpfpojehcjmfnaa

/-
  slices.IndexFunc, slices.ContainsFunc over spans.
  Conditions: the predicate, whatever the world, answers so, and leaves all that was.
-/
set_option linter.unusedVariables false
namespace Go.Proofs.Ytpfpojehcjmfnaa
open Go.RowKit

/-- A predicate that may make memory. -/
def PredS (g : Nat) (lb : Array Value) (p : Sp → Bool) (w : World) : Prop :=
  ∀ (W : World) (x : Sp), Below w.heap.size w W → Calls Try.prog g (#[.agg #[.int .i64 x.1, .int .i64 x.2]] ++ lb) W (RetB (.bool (p x)) W)
/-- The first at which it holds, or -1. -/
def FirstOf (p : Sp → Bool) (ps : List Sp) (r : Int) : Prop :=
  (r = -1 ∧ ∀ s ∈ ps, p s = false) ∨ ∃ (k : Nat) (s : Sp), r = k ∧ ps[k]? = some s ∧ p s = true ∧ ∀ (j : Nat) (t : Sp), j < k → ps[j]? = some t → p t = false
theorem FirstOf.any {p : Sp → Bool} {ps : List Sp} {r : Int} (h : FirstOf p ps r) : decide (r ≥ 0) = ps.any p := by
  rcases h with ⟨rfl, h⟩ | ⟨k, s, rfl, hk, hp, _⟩
  · have : ps.any p = false := by
      rw [List.any_eq_false]
      intro x hx
      rw [h x hx]; simp
    rw [this]; rfl
  · have : ps.any p = true := List.any_eq_true.2 ⟨s, List.mem_of_getElem? hk, hp⟩
    rw [this]; simp

set_option maxRecDepth 100000 in
set_option maxHeartbeats 2000000 in
theorem index_any (g : Nat) (lb : Array Value) (eg : ∀ args w, (callFunc g args).run Try.prog w = .ok (.enter g args) w) (p : Sp → Bool) (v : Value) (ps : List Sp) (w : World) (hp : PredS g lb p w) (h : SpansAt w v ps) :
    Calls Try.prog 89 #[v, .func (.func g) #[] lb] w (fun e w' => ∃ r, e = .returned (.int .i64 r) ∧ FirstOf p ps r ∧ Below w.heap.size w w') := by
  obtain ⟨A, c, rfl, hc1, hlen, hc2, hat⟩ := h
  have HAT := Lib.hid hat
  have HP := Lib.hid hp
  generalize hn : ps.length = n at *
  have HN := Lib.hid hn
  clear hat hp hn
  go_enter Try.func89, Try.ntmps89
  go_wp2
  go_loopg [5, 8] n (fun gg _ s8 wr => ∃ kk : Nat, kk ≤ n ∧ gg = n - kk ∧ s8 = .int .i64 kk ∧ Below w.heap.size w wr ∧ ∀ (j : Nat) (t : Sp), j < kk → ps[j]? = some t → p t = false)
  case atStart => exact ⟨0, Nat.zero_le _, by omega, rfl, Below.refl _ w, fun j t hj => absurd hj (Nat.not_lt_zero _)⟩
  case round =>
    obtain ⟨k, hk, hg, rfl, hbw, hall⟩ := hrel
    have HB := Lib.hid hbw
    have HALL := Lib.hid hall
    have HG := Lib.hid hg
    clear hbw hall hg
    by_cases hlt : k < n
    · have hltz : (k : Int) < (n : Int) := by omega
      obtain ⟨b, off, hA, hbl, hcell⟩ := HAT.out (by omega)
      subst hA
      obtain ⟨y, hy⟩ := ex_at (xs := ps) (k := k) (by rw [HN.out]; exact hlt)
      obtain ⟨hc1', hc2'⟩ := (hcell k y hy).keep HB.out hbl
      have hcall := HP.out wr y HB.out
      have HY := Lib.hid hy
      clear hcell hy
      cases hq : p y with
      | true =>
        rw [hq] at hcall
        have HC := Lib.hid hcall
        have HQ := Lib.hid hq
        clear hcall hq
        obtain ⟨y1, y2⟩ := y
        simp only at hc1' hc2'
        go_wp2_with (go_at_fn g; refine HC.out.mono ?_; rintro e w' ⟨rfl, hb'⟩)
        go_ret
        exact ⟨k, rfl, .inr ⟨k, _, rfl, HY.out, HQ.out, HALL.out⟩, HB.out.trans (hb'.mono HB.out.size)⟩
      | false =>
        rw [hq] at hcall
        have HC := Lib.hid hcall
        have HQ := Lib.hid hq
        clear hcall hq
        obtain ⟨y1, y2⟩ := y
        simp only at hc1' hc2'
        go_wp2_with (go_at_fn g; refine HC.out.mono ?_; rintro e w' ⟨rfl, hb'⟩)
        go_roundg (n - (k + 1))
        case measure => have := HG.out; omega
        case rel =>
          refine ⟨k + 1, by omega, rfl, by go_num, HB.out.trans (hb'.mono HB.out.size), fun j t hj ht => ?_⟩
          by_cases e : j = k
          · subst e
            have := HY.out
            rw [this] at ht
            rw [← Option.some.inj ht]
            exact HQ.out
          · exact HALL.out j t (by omega) ht
    · have hltz : ¬ (k : Int) < (n : Int) := by omega
      go_wp2
      go_ret
      refine ⟨-1, rfl, .inl ⟨rfl, fun s hs => ?_⟩, HB.out⟩
      obtain ⟨j, hj, e⟩ := List.getElem_of_mem hs
      exact HALL.out j s (by have := HN.out; omega) (by rw [List.getElem?_eq_getElem hj, e])

theorem contains_any (g : Nat) (lb : Array Value) (eg : ∀ args w, (callFunc g args).run Try.prog w = .ok (.enter g args) w) (p : Sp → Bool) (v : Value) (ps : List Sp) (w : World) (hp : PredS g lb p w) (h : SpansAt w v ps) :
    Calls Try.prog 67 #[v, .func (.func g) #[] lb] w (RetB (.bool (ps.any p)) w) := by
  have HC := Lib.hid (index_any g lb eg p v ps w hp h)
  clear hp h
  go_enter Try.func67, Try.ntmps67
  go_wp2_with (go_at_call 89; refine HC.out.mono ?_; rintro e w' ⟨r, rfl, hr, hb⟩)
  all_goals go_ret
  all_goals (refine ⟨?_, hb⟩; rw [← hr.any]; simp_all)
end Go.Proofs.Ytpfpojehcjmfnaa

/-
  cmp.Compare, cmp.Or, the program's compare and Ahead, the document's Ahead.
  Conditions: none.
-/
set_option linter.unusedVariables false
namespace Go.Proofs.Ytpfpojehcjmfnaa
open Go.RowKit Go.Sort

def cmpI (p q : Int) : Int := if p < q then -1 else if q < p then 1 else 0

theorem isNaN_any (a : Int) (w : World) : Calls Try.prog 84 #[.int .i64 a] w (Ret (.bool false) w) := by
  have h : (a != a) = false := by simp
  go_enter Try.func84, Try.ntmps84
  go_wp2
  go_ret
  exact ⟨rfl, rfl⟩

theorem compareInt_any (p q : Int) (w : World) : Calls Try.prog 53 #[.int .i64 p, .int .i64 q] w (Ret (.int .i64 (cmpI p q)) w) := by
  by_cases h1 : p < q
  · have e : Hid (cmpI p q = -1) := by show _ = _; unfold cmpI; rw [if_pos h1]
    go_enter Try.func53, Try.ntmps53
    go_wp2_with (go_at_call 84; refine (isNaN_any _ _).mono ?_; rintro e w' ⟨rfl, rfl⟩)
    go_ret
    exact ⟨ret_int e.out.symm, rfl⟩
  · have h1' : q ≤ p := by omega
    by_cases h2 : q < p
    · have e : Hid (cmpI p q = 1) := by show _ = _; unfold cmpI; rw [if_neg h1, if_pos h2]
      clear h1
      go_enter Try.func53, Try.ntmps53
      go_wp2_with (go_at_call 84; refine (isNaN_any _ _).mono ?_; rintro e w' ⟨rfl, rfl⟩)
      go_ret
      exact ⟨ret_int e.out.symm, rfl⟩
    · have h2' : p ≤ q := by omega
      have e : Hid (cmpI p q = 0) := by show _ = _; unfold cmpI; rw [if_neg h1, if_neg h2]
      clear h1 h2
      go_enter Try.func53, Try.ntmps53
      go_wp2_with (go_at_call 84; refine (isNaN_any _ _).mono ?_; rintro e w' ⟨rfl, rfl⟩)
      go_ret
      exact ⟨ret_int e.out.symm, rfl⟩

/-- compare's answer, all that was left as it was. -/
theorem below_growN {B : Nat} {a W : World} (h : Go.RowKit.Below B a W) (hB : B ≤ W.heap.size) (n : Nat) (os : Array Obj) : Go.RowKit.Below B a (grow (W.drewN n) os) := by
  refine h.trans ⟨rfl, rfl, rfl, ?_, fun k hk => ?_⟩
  · show W.heap.size ≤ (W.heap ++ os).size
    simp
  · show (W.heap ++ os)[k]? = _
    rw [Array.getElem?_append_left (by omega)]
end Go.Proofs.Ytpfpojehcjmfnaa

/-
  Has of the document, hasCore, isWhole, wantOf, compareUnits of the program.
  Conditions: the numbers are of their kinds.
-/
set_option linter.unusedVariables false
namespace Go.Proofs.Ytpfpojehcjmfnaa
open Go.RowKit Go.Sort

theorem hasB_core {m : Nat} {c : Int} (h : 0 ≤ c ∧ c < 16) : hasB m c = hasC m c := by
  obtain ⟨C, rfl⟩ := Int.eq_ofNat_of_zero_le h.1
  rw [hasB_nat (by omega), hasC_nat (by omega)]
theorem conv32 (m : Nat) (hm : m < 4294967296) : IntKind.u64.wrap (m : Int) = (m : Int) := by rw [IntKind.wrap_u64]; omega

set_option maxHeartbeats 1000000 in
theorem hasCore_any (f : Int) (m : Nat) (v : Value) (c : Int) (w : World) (hm : m < 4294967296) :
    Calls Try.prog 55 #[planA f m v, .int .i64 c] w (RetB (.bool (hasC m c)) w) := by
  have hconv := conv32 m hm
  obtain ⟨w1, P, hw1, hP, hPl, hb1, hbox⟩ := box_any w #[.int .i64 f, .int .u32 m, v] 28
  have HB1 := Lib.hid hb1
  obtain ⟨r0, r1, r2⟩ := three_heads hbox
  clear hb1 hbox
  unfold planA
  by_cases h1 : c < 16
  · have HH := Lib.hid (fun W => has_any m c W (by omega))
    have e : hasB m c = hasC m c := by
      by_cases h0 : 0 ≤ c
      · exact hasB_core ⟨h0, h1⟩
      · rw [hasB_out (by omega), hasC_out (by omega)]
    rw [e] at HH
    generalize hasC m c = r at *
    go_enter Try.func55, Try.ntmps55
    go_wp2_with (go_at_call 85; refine (HH.out _).mono ?_; rintro e w' ⟨rfl, rfl⟩)
    go_ret
    exact ⟨rfl, HB1.out⟩
  · rw [hasC_out (by omega)]
    have h1' : decide (c < 16) = false := decide_eq_false h1
    go_enter Try.func55, Try.ntmps55
    go_wp2
    go_ret
    exact ⟨rfl, HB1.out⟩

set_option maxHeartbeats 1000000 in
theorem isWhole_any (F : Nat → Prop) (A : Option Addr) (n d : Nat) (x : Pl) (w : World) :
    Calls Try.prog 61 #[plA (.slice A n d) x] w (RetB (.bool (decide (n = 0))) w) := by
  obtain ⟨w1, P, hw1, hP, hPl, hb1, hbox⟩ := box_any w #[.int .i64 x.u, .int .i64 x.s, .int .i64 x.c, .slice A n d] 41
  have HB1 := Lib.hid hb1
  obtain ⟨r0, r1, r2, r3⟩ := four_heads hbox
  clear hb1 hbox
  unfold plA
  cases hn : decide (n = 0) with
  | true =>
    have hz : ((n : Int) == 0) = true := by have := of_decide_eq_true hn; subst this; rfl
    clear hn
    go_enter Try.func61, Try.ntmps61
    go_wp2
    go_ret
    exact ⟨rfl, HB1.out⟩
  | false =>
    have hz : ((n : Int) == 0) = false := by have := of_decide_eq_false hn; simpa using this
    clear hn
    go_enter Try.func61, Try.ntmps61
    go_wp2
    go_ret
    exact ⟨rfl, HB1.out⟩

set_option maxHeartbeats 1000000 in
theorem compareUnits_any (v v' : Value) (x y : Pl) (w : World) :
    Calls Try.prog 31 #[plA v x, plA v' y] w (RetB (.int .i64 (cmpI x.u y.u)) w) := by
  obtain ⟨w1, P, hw1, hP, hPl, hb1, hbox⟩ := box_any w #[.int .i64 x.u, .int .i64 x.s, .int .i64 x.c, v] 41
  obtain ⟨w2, Q, hw2, hQ, hQl, hb2, hbox2⟩ := box_any w1 #[.int .i64 y.u, .int .i64 y.s, .int .i64 y.c, v'] 41
  have HB1 := Lib.hid (hb1.trans (hb2.mono hb1.size))
  obtain ⟨r0, _, _, _⟩ := four_heads (keep_block hbox hb2)
  obtain ⟨q0, _, _, _⟩ := four_heads hbox2
  have HC := Lib.hid (fun W => compareInt_any x.u y.u W)
  generalize cmpI x.u y.u = r at *
  clear hb1 hbox hb2 hbox2
  unfold plA
  go_enter Try.func31, Try.ntmps31
  go_wp2_with (go_at_call 53; refine (HC.out _).mono ?_; rintro e w' ⟨rfl, rfl⟩)
  go_ret
  exact ⟨rfl, HB1.out⟩

set_option maxHeartbeats 1000000 in
theorem wantOf_any (v : Value) (x : Pl) (w : World) :
    Calls Try.prog 60 #[plA v x] w (RetB (.agg #[.int .i64 x.u, .int .i64 x.s]) w) := by
  obtain ⟨w1, P, hw1, hP, hPl, hb1, hbox⟩ := box_any w #[.int .i64 x.u, .int .i64 x.s, .int .i64 x.c, v] 41
  obtain ⟨r0, r1, r2, r3⟩ := four_heads hbox
  have HB1 := Lib.hid hb1
  clear hb1 hbox
  unfold plA
  go_enter Try.func60, Try.ntmps60
  go_wp2_with fail
  refine bodyPost_ret (v := .agg #[.int .i64 x.u, .int .i64 x.s]) (results_cell_row rfl _ _ w1.heap.size _ _ _ _ rfl (heap_alloc_new w1 _) Try.underlying25 rfl (Try.sizeWt _ _)) rfl ?_
  exact ⟨rfl, HB1.out.trans ((Below.refl _ w1).alloc HB1.out.size _)⟩
end Go.Proofs.Ytpfpojehcjmfnaa

/-
  Ticks of a set as a list: the program's and the document's, and the document's Count.
  Conditions: the numbers are of their kinds.
-/
set_option linter.unusedVariables false
namespace Go.Proofs.Ytpfpojehcjmfnaa
open Go.RowKit

/-- The ticks below k, as ints. -/
def ticksI (m k : Nat) : List Int := (ticksT m k).map (fun t : Nat => (t : Int))
theorem ticksI_length (m k : Nat) : (ticksI m k).length = cntT m k := by unfold ticksI cntT; rw [List.length_map]
theorem ticksI_yes {m k : Nat} (h : m.testBit k = true) : ticksI m (k + 1) = ticksI m k ++ [(k : Int)] := by
  unfold ticksI
  rw [ticksT_succ, if_pos h, List.map_append]
  rfl
theorem ticksI_no {m k : Nat} (h : m.testBit k = false) : ticksI m (k + 1) = ticksI m k := by
  unfold ticksI
  rw [ticksT_succ, if_neg (by rw [h]; simp)]
theorem ticksI_get {m i : Nat} {x : Int} (h : (ticksI m 64)[i]? = some x) : ∃ j : Nat, x = (j : Int) ∧ (ticks m)[i]? = some j := by
  unfold ticksI at h
  rw [List.getElem?_map] at h
  obtain ⟨j, hj, rfl⟩ := Option.map_eq_some_iff.1 h
  exact ⟨j, rfl, hj⟩

/-- A list that a call answers. -/
def RetL (xs : List Int) (w : World) (e : Ending) (w' : World) : Prop := ∃ v, e = .returned v ∧ IntsAt w' v xs ∧ Below w.heap.size w w'

theorem ints_of_own {W : World} {base : Nat} {v : Value} {xs : List Int} (h : W.ownsRow base 3 1 v xs.length (xs.map (Value.int .i64))) (hl : xs.length ≤ 9223372036854775807) : IntsAt W v xs := by
  obtain ⟨h1, h2⟩ := h
  rcases h2 with ⟨rfl, h0⟩ | ⟨g, cap, cur, rfl, hg, hh, hn, hc, hs, ht⟩
  · have : xs = [] := List.eq_nil_of_length_eq_zero h0
    subst this
    exact IntsAt.nil W
  · refine ⟨_, _, rfl, hl, fun _ => ⟨g, 0, rfl, ?_, fun j x hx => ?_⟩⟩
    · rcases Nat.lt_or_ge g W.heap.size with h' | h'
      · exact h'
      · rw [Array.getElem?_eq_none h'] at hh; cases hh
    · rw [Nat.zero_add, cell_of_row W g j _ _ (0, 0) hh]
      have hj : j < xs.length := (List.getElem?_eq_some_iff.1 hx).1
      have : (cur.toList.take (xs.length * 1))[j]? = some (.int .i64 x) := by rw [ht, List.getElem?_map, hx]; rfl
      rw [List.getElem?_take, if_pos (by omega)] at this
      rw [← this]
      simp

theorem below_grown4 {w w' : World} {row : Option Nat} {B : Nat} (hg : w.grownBy w' row) (hB : B ≤ w.heap.size) (hr : ∀ k, row = some k → B ≤ k) : Below B w w' := (Below.refl B w).grown hg hB hr
theorem own_base4 {w : World} {base e size n : Nat} {v : Value} {xs : List Value} (h : w.ownsRow base e size v n xs) : ∀ k, v.ownBlock = some k → base ≤ k := by
  intro k hk
  rcases h.2 with ⟨h1, _⟩ | ⟨g, cap, cur, h1, h2, _⟩
  · subst h1; cases hk
  · subst h1; cases hk; exact h2

def TicksRel (m : Nat) (w : World) (g : Nat) (s i : Value) (wr : World) : Prop :=
  ∃ k : Nat, k ≤ 64 ∧ g = 64 - k ∧ i = .int .i64 k ∧ Below w.heap.size w wr ∧ wr.ownsRow w.heap.size 3 1 s (ticksI m k).length ((ticksI m k).map (Value.int .i64))

set_option maxRecDepth 100000 in
set_option maxHeartbeats 1000000 in
theorem ticks_any (m : Nat) (w : World) (hm : m < 18446744073709551616) (HC : ∀ W, Calls Try.prog 73 #[.int .u64 m] W (Ret (.int .i64 (cnt m)) W)) :
    Calls Try.prog 54 #[.int .u64 m] w (RetL (ticksI m 64) w) := by
  obtain ⟨i0, hi, hz0, hz1, hz2⟩ := info_parts Try.infoInt
  have HCC := Lib.hid HC
  have hc64 := cnt_le m
  generalize cnt m = c at *
  clear HC
  go_enter Try.func54, Try.ntmps54
  go_wp2_with (first
    | (go_at_call 73; refine (HCC.out _).mono ?_; rintro e w' ⟨rfl, rfl⟩)
    | (at_make; refine wpList_make_own _ rfl _ _ 56 rfl w.heap.size 3 i0 (.int .i64 0) 1 Try.underlying56 hi hz0 hz1 _ _ _ c rfl rfl rfl (by rw [hz2]; omega) (by unfold maxLen; omega) (Nat.le_refl _) ?_; intro w1 hown1 hgrow1))
  have HB0 := Lib.hid (below_grown4 hgrow1 (Nat.le_refl _) (fun k h => by cases h))
  have HO0 := Lib.hid hown1
  clear hown1 hgrow1
  go_loopg [3, 8] 64 (fun g s i wr => TicksRel m w g s i wr)
  case atStart => exact ⟨0, Nat.zero_le _, rfl, rfl, HB0.out, HO0.out⟩
  case round =>
    obtain ⟨k, hk, hg, rfl, hbr, hown⟩ := hrel
    have HG := Lib.hid hg
    have HB := Lib.hid hbr
    have HO := Lib.hid hown
    clear hg hbr hown
    by_cases hlt : k < 64
    · have HH := Lib.hid (fun W => has_any m (k : Int) W hm)
      rw [hasB_nat hlt] at HH
      have hlen : cntT m k ≤ k := cntT_le m k
      rw [ticksI_length] at HO
      generalize hn : cntT m k = n at *
      have HN := Lib.hid hn
      clear hn
      cases hb : m.testBit k
      · have HE := Lib.hid (ticksI_no hb)
        rw [hb] at HH
        clear hb
        go_wp2_with (go_at_call 85; refine (HH.out _).mono ?_; rintro e w' ⟨rfl, rfl⟩)
        go_roundg (64 - (k + 1))
        case measure => have := HG.out; omega
        case rel => exact ⟨k + 1, by omega, rfl, by go_num, HB.out, by rw [HE.out, ticksI_length, HN.out]; exact HO.out⟩
      · have HE := Lib.hid (ticksI_yes hb)
        rw [hb] at HH
        clear hb
        have hsz := HB.out.size
        go_wp2_with (first
          | (go_at_call 85; refine (HH.out _).mono ?_; rintro e w' ⟨rfl, rfl⟩)
          | (at_builtin; refine wpList_append_own _ rfl _ _ 56 rfl w.heap.size 3 i0 (.int .i64 0) 1 8 Try.underlying56 hi hz0 hz1 hz2 rfl (by decide) _ _ _ rfl (HO.out.alloc _) ⟨wr.heap.size, 0, none⟩ 1 1 [.int .i64 k] rfl rfl ?c1 ?c2 ?c3 ?c4 ?c5 ?_))
        case c1 =>
          intro j u hj
          rcases j with _ | j
          · simpa [Addr.add] using hj
          · simp at hj
        case c2 => intro u hu; simp at hu; subst hu; rfl
        case c3 => unfold maxLen; omega
        case c4 => omega
        case c5 => simp; omega
        intro v2 w2 hown2 hgrow _
        have HB2 := Lib.hid ((HB.out.alloc hsz _).trans (below_grown4 hgrow (by simp; omega) (own_base4 HO.out)))
        have HO2 := Lib.hid hown2
        clear hown2 hgrow hsz
        go_wp2
        go_roundg (64 - (k + 1))
        case measure => have := HG.out; omega
        case rel =>
          refine ⟨k + 1, by omega, rfl, by go_num, HB2.out, ?_⟩
          have e := HO2.out
          rw [HE.out, List.length_append, ticksI_length, HN.out, List.map_append]
          exact e
    · have hk64 : k = 64 := by omega
      subst hk64
      have HR := Lib.hid (ints_of_own HO.out (by rw [ticksI_length]; have := cntT_le m 64; omega))
      go_wp2
      go_ret
      exact ⟨_, rfl, HR.out, HB.out⟩
end Go.Proofs.Ytpfpojehcjmfnaa
