/-
  splits of the program: the places that have windows.
  Conditions: the slice reads as tables; they are not too many.
-/
import Derived.Test.YtpjmdnhoiobedaaSteps
import Derived.Test.YtpjmdnhoiobedaaTicks
import Derived.OrdersHeld
import Derived.WalkKit
import Derived.Deep.RegionHeld
import Derived.Test.YtpjmdnhoiobedaaRefOf
import Derived.Test.YtpjmdnhoiobedaaMaps
import Derived.Maps.RangeWalk

/-
  The cells of pieces.
  Conditions: none.
-/
set_option linter.unusedVariables false
namespace Go.Proofs.Ytpjmdnhoiobedaa
open Go.RowKit

def pcsCells (ps : List Pc) : List Value := ps.flatMap pcCells
theorem pcsCells_cons (y : Pc) (ps : List Pc) : pcsCells (y :: ps) = .int .i64 y.c :: .int .u64 y.t :: pcsCells ps := by simp [pcsCells, pcCells]
theorem pcsCells_length : ∀ (ps : List Pc), (pcsCells ps).length = ps.length * 2
  | [] => rfl
  | y :: ps => by rw [pcsCells_cons]; simp [pcsCells_length ps]; omega
theorem pcsCells_get : ∀ (ps : List Pc) (j : Nat) (y : Pc), ps[j]? = some y → (pcsCells ps)[j * 2]? = some (.int .i64 y.c) ∧ (pcsCells ps)[j * 2 + 1]? = some (.int .u64 y.t)
  | [], j, y, h => by simp at h
  | z :: ps, 0, y, h => by
    simp at h
    subst h
    exact ⟨rfl, rfl⟩
  | z :: ps, j + 1, y, h => by
    have ih := pcsCells_get ps j y (by simpa using h)
    rw [pcsCells_cons, show (j + 1) * 2 = j * 2 + 1 + 1 by omega]
    simpa using ih
theorem pcsCells_one (ps : List Pc) : ∀ u ∈ pcsCells ps, u.oneCell' = true := by
  intro u hu
  obtain ⟨y, _, hy⟩ := List.mem_flatMap.1 hu
  simp [pcCells] at hy
  rcases hy with rfl | rfl <;> rfl
theorem pcsCells_of {W : World} {b off : Nat} : ∀ (ps : List Pc), (∀ (j : Nat) (y : Pc), ps[j]? = some y → PcAt W b (off + j * 2) y) → ∀ j u, (pcsCells ps)[j]? = some u → W.cell? ⟨b, off + j, none⟩ = some u := by
  intro ps hc j u h
  have hj : j < ps.length * 2 := by rw [← pcsCells_length]; exact (List.getElem?_eq_some_iff.1 h).1
  obtain ⟨i, hi⟩ : ∃ i, j = i * 2 ∨ j = i * 2 + 1 := ⟨j / 2, by omega⟩
  obtain ⟨y, hy⟩ := exP_at (xs := ps) (k := i) (by omega)
  obtain ⟨g1, g2⟩ := pcsCells_get ps i y hy
  obtain ⟨k1, k2⟩ := hc i y hy
  rcases hi with rfl | rfl
  · rw [g1] at h
    rw [k1]; exact h
  · rw [g2] at h
    rw [← Nat.add_assoc, k2]; exact h
/-- A row of a call's own reads as pieces. -/
theorem pcs_of_own {W : World} {base : Nat} {v : Value} {ps : List Pc} (h : W.ownsRow base 61 2 v ps.length (pcsCells ps)) : PcsIn (fun b => base ≤ b) W v ps := by
  obtain ⟨h1, h2⟩ := h
  rcases h2 with ⟨rfl, h0⟩ | ⟨g, cap, cur, rfl, hg, hh, hn, hc, hs, ht⟩
  · have : ps = [] := List.eq_nil_of_length_eq_zero h0
    subst this
    exact PcsIn.nil _ W
  · refine ⟨_, cap, rfl, hn, by unfold maxLen at hc; omega, fun _ => ⟨g, 0, rfl, heap_lt hh, hg, fun j y hy => ?_⟩⟩
    have hj : j < ps.length := (List.getElem?_eq_some_iff.1 hy).1
    obtain ⟨g1, g2⟩ := pcsCells_get ps j y hy
    have key : ∀ (i : Nat) (u : Value), i < ps.length * 2 → (pcsCells ps)[i]? = some u → W.cell? ⟨g, 0 + i, none⟩ = some u := by
      intro i u hi hu
      rw [Nat.zero_add, cell_of_row W g i _ _ (0, 0) hh, ← hu, ← ht, List.getElem?_take, if_pos hi]
      simp
    exact ⟨key _ _ (by omega) g1, by rw [Nat.add_assoc]; exact key _ _ (by omega) g2⟩
/-- What a call answers: these pieces, in memory of its own. -/
def RetPcs (ps : List Pc) (w : World) (e : Ending) (w' : World) : Prop := ∃ v, e = .returned v ∧ PcsIn (fun b => w.heap.size ≤ b) w' v ps ∧ Below w.heap.size w w'

end Go.Proofs.Ytpjmdnhoiobedaa

/-
  The set of some ticks: the program's and the document's; a set is the set of its ticks.
  Conditions: the numbers are of their kinds.
-/
set_option linter.unusedVariables false
namespace Go.Proofs.Ytpjmdnhoiobedaa
open Go.RowKit

/-- The set of the first k of a list. -/
def ofT (xs : List Int) (k : Nat) : Nat := (xs.take k).foldl withI 0
def ofI (xs : List Int) : Nat := xs.foldl withI 0
theorem ofT_zero (xs : List Int) : ofT xs 0 = 0 := rfl
theorem ofT_succ {xs : List Int} {k : Nat} {x : Int} (h : xs[k]? = some x) : ofT xs (k + 1) = withI (ofT xs k) x := by
  unfold ofT
  rw [List.take_add_one, h, List.foldl_append]
  rfl
theorem ofT_all {xs : List Int} {k : Nat} (h : xs.length ≤ k) : ofT xs k = ofI xs := by
  unfold ofT ofI
  rw [List.take_of_length_le h]
theorem ofT_lt (xs : List Int) : ∀ k, ofT xs k < 18446744073709551616
  | 0 => by rw [ofT_zero]; decide
  | k + 1 => by
    rcases Nat.lt_or_ge k xs.length with h | h
    · rw [ofT_succ (List.getElem?_eq_getElem h)]
      exact withI_lt (ofT_lt xs k)
    · have := ofT_lt xs k
      rw [ofT_all (k := k) h] at this
      rw [ofT_all (k := k + 1) (by omega)]
      exact this
theorem ofI_lt (xs : List Int) : ofI xs < 18446744073709551616 := by rw [← ofT_all (Nat.le_refl _)]; exact ofT_lt _ _
theorem of_ticks {m : Nat} (hm : m < 18446744073709551616) : ofI (ticksI m 64) = m := by
  have key : ∀ k, k ≤ cnt m → ofT (ticksI m 64) k = lowN m k := by
    intro k
    induction k with
    | zero => intro _; rw [ofT_zero, lowN_zero]
    | succ k ih =>
      intro hk
      obtain ⟨x, hx⟩ := ex_at (xs := ticksI m 64) (k := k) (by rw [ticksI_length]; exact hk)
      obtain ⟨j, rfl, hj⟩ := ticksI_get hx
      rw [ofT_succ hx, ih (by omega), withI_nat ((tick_iff m k j).1 hj).1, lowN_succ hj]
  have h := key (cnt m) (Nat.le_refl _)
  rw [ofT_all (by rw [ticksI_length]; exact Nat.le_refl _), lowN_all m (Nat.le_refl _) hm] at h
  exact h

def OfRel (xs : List Int) (s i : Value) : Prop := ∃ k : Nat, k ≤ xs.length ∧ i = .int .i64 k ∧ s = .int .u64 (ofT xs k)

set_option maxHeartbeats 1000000 in
theorem of_any (xs : List Int) (v : Value) (w : World) (hs : IntsAt w v xs) : Calls Try.prog 52 #[v] w (Ret (.int .u64 (ofI xs)) w) := by
  obtain ⟨A, c, rfl, hl, hat⟩ := hs
  have HA := Lib.hid hat
  clear hat
  go_enter Try.func52, Try.ntmps52
  go_wp2
  go_loop [3, 8] (fun s i => OfRel xs s i) (fun _ i => xs.length - (intOf i).toNat)
  case atStart => exact ⟨0, Nat.zero_le _, rfl, by rw [ofT_zero]; rfl⟩
  case round =>
    obtain ⟨k, hk, rfl, rfl⟩ := hrel
    by_cases hlt : k < xs.length
    · obtain ⟨x, hx⟩ := ex_at hlt
      obtain ⟨b, off, rfl, hb, hc⟩ := HA.out (by omega)
      have hck := hc k x hx
      have HX := Lib.hid (ofT_succ hx)
      have hm := ofT_lt xs k
      clear hc hx
      have HR := Lib.hid (inRange_any x w)
      by_cases h : 0 ≤ x ∧ x < 64
      · obtain ⟨T, rfl⟩ := Int.eq_ofNat_of_zero_le h.1
        have hT : T < 64 := by omega
        rw [decide_eq_true h] at HR
        have ho := or_word hm hT
        rw [withI_nat hT] at HX
        generalize ofT xs k = y at *
        generalize withN y T = z at *
        clear h
        go_wp2_with (go_at_call 73; refine HR.out.mono ?_; rintro e w' ⟨rfl, rfl⟩)
        go_round
        case rel => exact ⟨k + 1, by omega, by go_num, by rw [HX.out]⟩
        case measure => simp [intOf]; omega
      · rw [decide_eq_false h] at HR
        rw [withI_out h] at HX
        generalize ofT xs k = y at *
        clear h
        go_wp2_with (go_at_call 73; refine HR.out.mono ?_; rintro e w' ⟨rfl, rfl⟩)
        go_round
        case rel => exact ⟨k + 1, by omega, by go_num, by rw [HX.out]⟩
        case measure => simp [intOf]; omega
    · have HE := Lib.hid (ofT_all (xs := xs) (k := k) (by omega))
      go_wp2
      go_ret
      exact ⟨ret_nat HE.out, rfl⟩
end Go.Proofs.Ytpjmdnhoiobedaa

/-
  A law on regions whose order is open: a load may be taken first where every operation that could come before it leaves the loaded cells as they are, though a store that waits for all loads writes them.
  Conditions: those of each law. The condition S is shown anew behind the operations that N names, not behind the others.
-/
namespace Go.Proofs.Ytpjmdnhoiobedaa
open Go

section
variable {P : Program} {ops : Array Oper} {Q : Exit → Act → World → Prop} {md : Region.Mode} {S1 S2 : World → Prop} {N : Nat → Bool}

/-- Whatever order is drawn; behind each operation the world meets S1, and an operation that N names keeps S2. -/
def wpAnyN (P : Program) (md : Region.Mode) (ops : Array Oper) (Q : Exit → Act → World → Prop) (S1 S2 : World → Prop) (N : Nat → Bool) : Nat → Array Bool → Act → World → Prop
  | 0, listed, a, w => Region.ready md ops listed = [] ∧ Q .normal a w
  | fuel + 1, listed, a, w =>
    (Region.ready md ops listed = [] → Q .normal a w) ∧
    ∀ i ∈ Region.ready md ops listed, wpOp P ops Q i (fun a' w' => (S1 w' ∧ (N i = true → S2 w → S2 w')) ∧ wpAnyN P md ops Q S1 S2 N fuel (listed.setIfInBounds i true) a' w') a w

theorem wpAny_of_N : ∀ (fuel : Nat) (listed : Array Bool) (a : Act) (w : World), wpAnyN P md ops Q S1 S2 N fuel listed a w → wpAny P md ops Q fuel listed a w
  | 0, _, _, _, h => h
  | fuel + 1, _, _, _, h => ⟨h.1, fun i hi => wpOp_mono (fun _ _ h' => wpAny_of_N fuel _ _ _ h'.2) (h.2 i hi)⟩

/-- What a taken operation may lean on: S1, and S2 where 'b2' says so. -/
def Leans (S1 S2 : World → Prop) (b2 : Bool) (w : World) : Prop := S1 w ∧ (b2 = true → S2 w)

/-- Operation i may be taken first: every other one that has not come up waits for it, or is apart from it and keeps what it leans on. -/
theorem wpAnyN_first {i : Nat} {oi : Oper} {v : Value} {b2 : Bool} (hi : ops[i]? = some oi) (hsel : ∀ (j : Nat) (o : Oper) cs b, ops[j]? = some o → o.op ≠ .select cs b)
    (hQ : ∀ c a w, Q (.panic c) (a.put oi.dst v) w → Q (.panic c) a w) :
    ∀ (fuel : Nat) (listed : Array Bool) (a : Act) (w : World),
      (∀ j oj, ops[j]? = some oj → j ≠ i → listed.getD j true = false → (∀ e ∈ oj.after, Region.binds md e = true → e.on ≠ i) → oi.apart ops oj = true ∧ (b2 = true → N j = true)) →
      i ∈ Region.ready md ops listed → YieldsIf P ops (Leans S1 S2 b2) oi v a → Leans S1 S2 b2 w →
      wpAnyN P md ops Q S1 S2 N fuel (listed.setIfInBounds i true) (a.put oi.dst v) w → wpAnyN P md ops Q S1 S2 N (fuel + 1) listed a w := by
  intro fuel
  induction fuel with
  | zero =>
    intro listed a w _ hr hy hS H
    refine ⟨fun h => (by rw [h] at hr; cases hr), fun j hj => ?_⟩
    by_cases hji : j = i
    · subst hji; exact hy.wpOp hi hS ⟨⟨hS.1, fun _ h => h⟩, H⟩
    · have := ready_mono hj hji
      rw [H.1] at this
      cases this
  | succ fuel ih =>
    intro listed a w hfree hr hy hS H
    refine ⟨fun h => (by rw [h] at hr; cases hr), fun j hj => ?_⟩
    by_cases hji : j = i
    · subst hji; exact hy.wpOp hi hS ⟨⟨hS.1, fun _ h => h⟩, H⟩
    · have h1 := H.2 j (ready_mono hj hji)
      obtain ⟨hjun, oj, hoj, hall⟩ := mem_ready.1 hj
      have hnot : ∀ e ∈ oj.after, Region.binds md e = true → e.on ≠ i := fun e he hb heq => by
        have h1 := hall e he hb
        have h0 := (mem_ready.1 hr).1
        rw [heq] at h1
        rcases Nat.lt_or_ge i listed.size with h' | h'
        · simp [h'] at h0 h1; rw [h0] at h1; cases h1
        · simp [Array.getElem?_eq_none h'] at h1
      obtain ⟨hap, hN⟩ := hfree j oj hoj hji hjun hnot
      have h2 := wpOp_putIf hoj hap (fun cs b => hsel i oi cs b hi) (fun cs b => hsel j oj cs b hoj) hQ hy h1
      have hfree' : ∀ k ok, ops[k]? = some ok → k ≠ i → (listed.setIfInBounds j true).getD k true = false →
          (∀ e ∈ ok.after, Region.binds md e = true → e.on ≠ i) → oi.apart ops ok = true ∧ (b2 = true → N k = true) := fun k ok hk hki hun hno => by
        refine hfree k ok hk hki ?_ hno
        by_cases hjk : j = k
        · subst hjk; exact hjun
        · rw [getD_set_ne true hjk] at hun; exact hun
      refine wpOp_mono (fun a' w' h3 => ⟨h3.2.1, ih (listed.setIfInBounds j true) a' w' hfree' (ready_mono hr (Ne.symm hji)) h3.1 ⟨h3.2.1.1, fun hb => h3.2.1.2 (hN hb) (hS.2 hb)⟩ ?_⟩) h2
      rw [Array.setIfInBounds_comm _ _ hji]
      exact h3.2.2

/-- The side condition as a Bool. -/
def freeOrd (md : Region.Mode) (ops : Array Oper) (N : Nat → Bool) (b2 : Bool) (listed : Array Bool) (i : Nat) : Bool :=
  match ops[i]? with
  | none => false
  | some oi => (List.range ops.size).all fun j => j == i || listed.getD j true || match ops[j]? with
      | some oj => oj.after.any (fun e => Region.binds md e && e.on == i) || (oi.apart ops oj && (!b2 || N j))
      | none => true

theorem freeOrd_spec {i : Nat} {oi : Oper} {b2 : Bool} {listed : Array Bool} (hi : ops[i]? = some oi) (h : freeOrd md ops N b2 listed i = true) (j : Nat) (oj : Oper)
    (hj : ops[j]? = some oj) (hne : j ≠ i) (hun : listed.getD j true = false) (hno : ∀ e ∈ oj.after, Region.binds md e = true → e.on ≠ i) :
    oi.apart ops oj = true ∧ (b2 = true → N j = true) := by
  simp only [freeOrd, hi, List.all_eq_true, List.mem_range] at h
  have h1 := h j (Array.getElem?_eq_some_iff.1 hj).1
  simp only [hj, Bool.or_eq_true, beq_iff_eq, hne, false_or, hun, Bool.false_eq_true, Bool.and_eq_true] at h1
  rcases h1 with h1 | h1
  · obtain ⟨e, he, hb⟩ := Array.any_eq_true'.1 h1
    simp only [Bool.and_eq_true, beq_iff_eq] at hb
    exact absurd hb.2 (hno e he hb.1)
  · refine ⟨h1.1, fun hb => ?_⟩
    rcases h1.2 with h2 | h2
    · rw [hb] at h2; cases h2
    · exact h2

theorem wpAnyN_take {i : Nat} {oi : Oper} {v : Value} {fuel : Nat} {listed : Array Bool} {a : Act} {w : World} (b2 : Bool) (hi : ops[i]? = some oi)
    (hs : Region.noSelect ops = true) (hf : freeOrd md ops N b2 listed i = true) (hr : (Region.ready md ops listed).contains i = true)
    (hQ : ∀ c a w, Q (.panic c) (a.put oi.dst v) w → Q (.panic c) a w) (hy : YieldsIf P ops (Leans S1 S2 b2) oi v a) (hS : Leans S1 S2 b2 w)
    (h : wpAnyN P md ops Q S1 S2 N fuel (listed.setIfInBounds i true) (a.put oi.dst v) w) : wpAnyN P md ops Q S1 S2 N (fuel + 1) listed a w :=
  wpAnyN_first hi (Region.noSelect_spec hs) hQ fuel listed a w (freeOrd_spec hi hf) (by simpa using hr) hy hS h

/-- One alone may come up. -/
theorem wpAnyN_step {i : Nat} {o : Oper} {fuel : Nat} {listed : Array Bool} {a : Act} {w : World} (hr : Region.ready md ops listed = [i]) (ho : ops[i]? = some o) (hw : Region.wanted o (yielded ops a.tmps) = true)
    (h : ∀ K' : Act → World → Prop, Shut (∀ a w', S1 w' → (N i = true → S2 w → S2 w') → wpAnyN P md ops Q S1 S2 N fuel (listed.setIfInBounds i true) a w' → K' a w') → Oper.wp P o a w K' Q) :
    wpAnyN P md ops Q S1 S2 N (fuel + 1) listed a w :=
  ⟨fun h0 => absurd (hr.symm.trans h0) (by intro e; cases e), fun j hj => by
    rw [hr] at hj
    obtain rfl := List.mem_singleton.1 hj
    exact wpOp_step ho (fun K' hK => by
      rw [if_pos hw]
      exact h K' (fun a w h1 h2 hW => hK a w ⟨⟨h1, h2⟩, hW⟩))⟩

theorem wpAnyN_done {listed : Array Bool} {a : Act} {w : World} (hr : Region.ready md ops listed = []) (h : Q .normal a w) : wpAnyN P md ops Q S1 S2 N 0 listed a w := ⟨hr, h⟩

/-- Two may come up. -/
theorem wpAnyN_two {i j : Nat} {oi oj : Oper} {fuel : Nat} {listed : Array Bool} {a : Act} {w : World} (hr : Region.ready md ops listed = [i, j]) (hi : ops[i]? = some oi) (hj : ops[j]? = some oj)
    (wi : Region.wanted oi (yielded ops a.tmps) = true) (wj : Region.wanted oj (yielded ops a.tmps) = true)
    (h1 : ∀ K' : Act → World → Prop, Shut (∀ a w', S1 w' → (N i = true → S2 w → S2 w') → wpAnyN P md ops Q S1 S2 N fuel (listed.setIfInBounds i true) a w' → K' a w') → Oper.wp P oi a w K' Q)
    (h2 : ∀ K' : Act → World → Prop, Shut (∀ a w', S1 w' → (N j = true → S2 w → S2 w') → wpAnyN P md ops Q S1 S2 N fuel (listed.setIfInBounds j true) a w' → K' a w') → Oper.wp P oj a w K' Q) :
    wpAnyN P md ops Q S1 S2 N (fuel + 1) listed a w :=
  ⟨fun h0 => absurd (hr.symm.trans h0) (by intro e; cases e), fun k hk => by
    rw [hr] at hk
    rcases List.mem_cons.1 hk with rfl | hk
    · exact wpOp_step hi (fun K' hK => by
        rw [if_pos wi]
        exact h1 K' (fun a w h1 h2 hW => hK a w ⟨⟨h1, h2⟩, hW⟩))
    · obtain rfl := List.mem_singleton.1 hk
      exact wpOp_step hj (fun K' hK => by
        rw [if_pos wj]
        exact h2 K' (fun a w h1 h2 hW => hK a w ⟨⟨h1, h2⟩, hW⟩))⟩

theorem wpOp_mono' {i : Nat} {K K' : Act → World → Prop} {a : Act} {w : World} (h : ∀ a w, K a w → K' a w) (hw : wpOp P ops Q i K a w) : wpOp P ops Q i K' a w := wpOp_mono h hw
/-- What is kept may be asked for more sharply from here on. -/
theorem wpAnyN_sharp {S1' : World → Prop} (h : ∀ w, S1' w → S1 w) : ∀ (fuel : Nat) (listed : Array Bool) (a : Act) (w : World), wpAnyN P md ops Q S1' S2 N fuel listed a w → wpAnyN P md ops Q S1 S2 N fuel listed a w
  | 0, _, _, _, hw => hw
  | fuel + 1, _, _, _, hw => ⟨hw.1, fun i hi => wpOp_mono (fun _ _ h' => ⟨⟨h _ h'.1.1, h'.1.2⟩, wpAnyN_sharp h fuel _ _ _ h'.2⟩) (hw.2 i hi)⟩

theorem wp_region_N {id : Nat} {a : Act} {w : World} (hm : P.follows .mixedOrders = true)
    (h : wpAnyN P .any ops Q S1 S2 N ops.size (Array.replicate ops.size false) a w.drew) : (Code.region id ops true).wp P Q a w :=
  wp_region_any hm (wpAny_of_N _ _ _ _ h)
end
end Go.Proofs.Ytpjmdnhoiobedaa

/-
  Rows of places, each with where its pieces lie.
  Conditions: none.
-/
set_option linter.unusedVariables false
namespace Go.Proofs.Ytpjmdnhoiobedaa
open Go.RowKit

/-- A place, and where its pieces lie. -/
abbrev Rp := (Option Addr × Nat) × Pl
def rpV (r : Rp) : Value := .slice r.1.1 r.2.ps.length r.1.2
def rpCells (m : Rp) : List Value := [.int .i64 m.2.u, .int .i64 m.2.s, .int .i64 m.2.c, rpV m]
def rowP (l : List Rp) : List Value := l.flatMap rpCells
theorem rowP_cons (m : Rp) (l : List Rp) : rowP (m :: l) = .int .i64 m.2.u :: .int .i64 m.2.s :: .int .i64 m.2.c :: rpV m :: rowP l := by simp [rowP, rpCells]
theorem rowP_append (l k : List Rp) : rowP (l ++ k) = rowP l ++ rowP k := by simp [rowP]
theorem rowP_length : ∀ (l : List Rp), (rowP l).length = l.length * 4
  | [] => rfl
  | m :: l => by rw [rowP_cons]; simp [rowP_length l]; omega
theorem rowP_get : ∀ (l : List Rp) (j : Nat) (m : Rp), l[j]? = some m → (rowP l)[j * 4]? = some (.int .i64 m.2.u) ∧ (rowP l)[j * 4 + 1]? = some (.int .i64 m.2.s) ∧ (rowP l)[j * 4 + 2]? = some (.int .i64 m.2.c) ∧ (rowP l)[j * 4 + 3]? = some (rpV m)
  | [], j, m, h => by simp at h
  | x :: l, 0, m, h => by
    simp at h
    subst h
    exact ⟨rfl, rfl, rfl, rfl⟩
  | x :: l, j + 1, m, h => by
    have ih := rowP_get l j m (by simpa using h)
    rw [rowP_cons, show (j + 1) * 4 = j * 4 + 1 + 1 + 1 + 1 by omega]
    simpa using ih
theorem rowP_one (l : List Rp) : ∀ u ∈ rowP l, u.oneCell' = true := by
  intro u hu
  obtain ⟨m, _, hm⟩ := List.mem_flatMap.1 hu
  simp [rpCells] at hm
  rcases hm with rfl | rfl | rfl | rfl <;> rfl
theorem rowP_take : ∀ (l : List Rp) (i : Nat), (rowP l).take (i * 4) = rowP (l.take i)
  | [], i => by simp [rowP]
  | m :: l, 0 => by simp [rowP]
  | m :: l, i + 1 => by
    rw [rowP_cons, show (i + 1) * 4 = i * 4 + 1 + 1 + 1 + 1 by omega, List.take_succ_cons, List.take_succ_cons, List.take_succ_cons, List.take_succ_cons, rowP_take l i, List.take_succ_cons, rowP_cons]
theorem rowP_drop : ∀ (l : List Rp) (i : Nat), (rowP l).drop (i * 4) = rowP (l.drop i)
  | [], i => by simp [rowP]
  | m :: l, 0 => by simp [rowP]
  | m :: l, i + 1 => by
    rw [rowP_cons, show (i + 1) * 4 = i * 4 + 1 + 1 + 1 + 1 by omega, List.drop_succ_cons, List.drop_succ_cons, List.drop_succ_cons, List.drop_succ_cons, rowP_drop l i, List.drop_succ_cons]
theorem rp_of {F : Nat → Prop} {W : World} {v : Value} {x : Pl} (h : PcsIn F W v x.ps) : ∃ r : Rp, r.2 = x ∧ rpV r = v := by
  obtain ⟨A, d, rfl⟩ := h.form
  exact ⟨((A, d), x), rfl, rfl⟩
def plsR (ls : List Rp) : List Pl := ls.map Prod.snd
/-- All pieces of the places lie in blocks of F. -/
def AllPcs (F : Nat → Prop) (W : World) (ls : List Rp) : Prop := ∀ r ∈ ls, PcsIn F W (rpV r) r.2.ps
theorem AllPcs.keepF {F : Nat → Prop} {W W' : World} {ls : List Rp} (h : AllPcs F W ls) (hs : W.heap.size ≤ W'.heap.size) (hk : ∀ b, b < W.heap.size → F b → W'.heap[b]? = W.heap[b]?) : AllPcs F W' ls := fun r hr => (h r hr).keepF hs hk
theorem AllPcs.keep {F : Nat → Prop} {W W' : World} {ls : List Rp} (h : AllPcs F W ls) (hb : Below W.heap.size W W') : AllPcs F W' ls := fun r hr => (h r hr).keep hb
theorem AllPcs.mono {F G : Nat → Prop} {W : World} {ls : List Rp} (h : AllPcs F W ls) (hg : ∀ b, b < W.heap.size → F b → G b) : AllPcs G W ls := fun r hr => (h r hr).mono hg
theorem AllPcs.nil (F : Nat → Prop) (W : World) : AllPcs F W [] := fun r hr => by cases hr
theorem AllPcs.snoc {F : Nat → Prop} {W : World} {ls : List Rp} (h : AllPcs F W ls) {r : Rp} (hr : PcsIn F W (rpV r) r.2.ps) : AllPcs F W (ls ++ [r]) := fun x hx => by
  rcases List.mem_append.1 hx with hx | hx
  · exact h x hx
  · rw [List.mem_singleton.1 hx]; exact hr
/-- A row of one's own that reads as places, their pieces in blocks of F. -/
theorem pls_of_own {W : World} {base : Nat} {v : Value} {ls : List Rp} {F : Nat → Prop} (h : W.ownsRow base 56 4 v ls.length (rowP ls)) (hp : AllPcs F W ls) : PlsIn (fun b => F b ∨ base ≤ b) W v (plsR ls) := by
  have hpp : ∀ p ∈ ls.map (fun r => (rpV r, r.2)), PcsIn (fun b => F b ∨ base ≤ b) W p.1 p.2.ps := fun p hp' => by
    obtain ⟨r, hr, rfl⟩ := List.mem_map.1 hp'
    exact (hp r hr).mono fun b _ hF => .inl hF
  have hl : (ls.map (fun r => (rpV r, r.2))).length = ls.length := by simp
  have he : plsOf (ls.map (fun r => (rpV r, r.2))) = plsR ls := by unfold plsOf plsR; rw [List.map_map]; rfl
  obtain ⟨h1, h2⟩ := h
  rcases h2 with ⟨rfl, h0⟩ | ⟨g, cap, cur, rfl, hg, hh, hn, hc, hs, ht⟩
  · have : ls = [] := List.eq_nil_of_length_eq_zero h0
    subst this
    exact PlsIn.nil _ W
  · refine ⟨_, he, _, cap, by rw [hl], by rw [hl]; exact hn, by unfold maxLen at hc; omega, fun _ => ⟨g, 0, rfl, heap_lt hh, .inr hg, fun j p hp' => ?_⟩, hpp⟩
    rw [List.getElem?_map] at hp'
    obtain ⟨r, hr, rfl⟩ := Option.map_eq_some_iff.1 hp'
    have hj : j < ls.length := (List.getElem?_eq_some_iff.1 hr).1
    obtain ⟨g0, g1, g2, g3⟩ := rowP_get ls j r hr
    have key : ∀ (i : Nat) (u : Value), i < ls.length * 4 → (rowP ls)[i]? = some u → W.cell? ⟨g, 0 + i, none⟩ = some u := by
      intro i u hi hu
      rw [Nat.zero_add, cell_of_row W g i _ _ (0, 0) hh, ← hu, ← ht, List.getElem?_take, if_pos hi]
      simp
    exact ⟨key _ _ (by omega) g0, by rw [Nat.add_assoc]; exact key _ _ (by omega) g1, by rw [Nat.add_assoc]; exact key _ _ (by omega) g2, by rw [Nat.add_assoc]; exact key _ _ (by omega) g3⟩
/-- Places that lie: each with where its pieces lie. -/
theorem pls_rows {F : Nat → Prop} {W : World} {v : Value} {l : List Pl} (h : PlsIn F W v l) : ∃ ls : List Rp, plsR ls = l ∧ AllPcs F W ls ∧ ∃ A c, v = .slice A l.length c ∧ (0 < l.length → ∃ b off, A = some ⟨b, off, none⟩ ∧ b < W.heap.size ∧ F b ∧ ∀ (i : Nat) (u : Value), (rowP ls)[i]? = some u → W.cell? ⟨b, off + i, none⟩ = some u) := by
  obtain ⟨qs, rfl, A, c, rfl, h2, h3, h4, h5⟩ := h
  have key : ∀ qs : List (Value × Pl), (∀ p ∈ qs, PcsIn F W p.1 p.2.ps) → ∃ ls : List Rp, ls.map (fun r => (rpV r, r.2)) = qs := by
    intro qs
    induction qs with
    | nil => exact fun _ => ⟨[], rfl⟩
    | cons p qs ih =>
      intro hq
      obtain ⟨ls, hls⟩ := ih fun q hq' => hq q (by simp [hq'])
      obtain ⟨r, hr1, hr2⟩ := rp_of (hq p (by simp))
      exact ⟨r :: ls, by rw [List.map_cons, hls, hr1, hr2]⟩
  obtain ⟨ls, hls⟩ := key qs h5
  subst hls
  have he : plsOf (ls.map (fun r => (rpV r, r.2))) = plsR ls := by unfold plsOf plsR; rw [List.map_map]; rfl
  rw [he]
  have hlen : (plsR ls).length = ls.length := by unfold plsR; simp
  refine ⟨ls, rfl, fun r hr => h5 (rpV r, r.2) (List.mem_map.2 ⟨r, hr, rfl⟩), A, c, by rw [hlen, List.length_map], fun h0 => ?_⟩
  obtain ⟨b, off, e, hlt, hf, hc⟩ := h4 (by rw [List.length_map]; omega)
  refine ⟨b, off, e, hlt, hf, fun i u hu => ?_⟩
  have hi : i < ls.length * 4 := by
    have := (List.getElem?_eq_some_iff.1 hu).1
    rwa [rowP_length] at this
  obtain ⟨r, hr⟩ := exP_at (xs := ls) (k := i / 4) (by omega)
  obtain ⟨g0, g1, g2, g3⟩ := rowP_get ls (i / 4) r hr
  obtain ⟨k0, k1, k2, k3⟩ := hc (i / 4) (rpV r, r.2) (by rw [List.getElem?_map, hr]; rfl)
  have hm : i = i / 4 * 4 ∨ i = i / 4 * 4 + 1 ∨ i = i / 4 * 4 + 2 ∨ i = i / 4 * 4 + 3 := by omega
  generalize i / 4 = q at *
  rcases hm with rfl | rfl | rfl | rfl
  · rw [g0] at hu; rw [k0]; exact hu
  · rw [g1] at hu; rw [← Nat.add_assoc, k1]; exact hu
  · rw [g2] at hu; rw [← Nat.add_assoc, k2]; exact hu
  · rw [g3] at hu; rw [← Nat.add_assoc, k3]; exact hu
end Go.Proofs.Ytpjmdnhoiobedaa

/-
  widen of the program: a place with a tick more.
  Conditions: the place's pieces lie in a row of the caller's own.
-/
set_option linter.unusedVariables false
set_option linter.unusedSimpArgs false
namespace Go.Proofs.Ytpjmdnhoiobedaa
open Go.RowKit

/-- The pieces with a tick more. -/
def widP (ps : List Pc) (c : Int) (k : Nat) : List Pc :=
  match ps.getLast? with
  | none => [⟨c, k⟩]
  | some y => if y.c = c then ps.dropLast ++ [⟨c, y.t ||| k⟩] else ps ++ [⟨c, k⟩]
theorem widP_nil (c : Int) (k : Nat) : widP [] c k = [⟨c, k⟩] := rfl
theorem widP_same (qs : List Pc) (y : Pc) (k : Nat) : widP (qs ++ [y]) y.c k = qs ++ [⟨y.c, y.t ||| k⟩] := by
  unfold widP
  rw [List.getLast?_concat]
  simp
theorem widP_more (qs : List Pc) (y : Pc) {c : Int} (h : y.c ≠ c) (k : Nat) : widP (qs ++ [y]) c k = qs ++ [y] ++ [⟨c, k⟩] := by
  unfold widP
  rw [List.getLast?_concat]
  simp [h]
def widT (x : Pl) (u c : Int) (k : Nat) : Pl := ⟨u, x.s + 1, x.c, widP x.ps c k⟩
theorem pcs_snoc_cells (qs : List Pc) (c : Int) (T : Nat) : pcsCells (qs ++ [⟨c, T⟩]) = pcsCells qs ++ [.int .i64 c, .int .u64 T] := by simp [pcsCells, pcCells]
theorem pcs_set_last (qs : List Pc) (a b b' : Value) : (pcsCells qs ++ [a, b]).set (qs.length * 2 + 1) b' = pcsCells qs ++ [a, b'] := by
  rw [List.set_append_right _ _ (by rw [pcsCells_length]; omega), pcsCells_length, show qs.length * 2 + 1 - qs.length * 2 = 1 by omega]
  rfl
theorem one4 (a b c : Int) (A : Option Addr) (n d : Nat) : (#[.int .i64 a, .int .i64 b, .int .i64 c, .slice A n d] : Array Value).all (·.oneCell') = true := by simp [Value.oneCell']
theorem frozen_same {W W' : World} {b o : Nat} (h : W'.heap[b]? = W.heap[b]?) : W'.frozen? ⟨b, o, none⟩ = W.frozen? ⟨b, o, none⟩ := by simp [World.frozen?, h]
theorem ownP_lies {W : World} {base e n : Nat} {v : Value} {xs : List Value} (h : W.ownsRow base e 2 v n xs) (hp : 0 < n) :
    ∃ g cap, v = .slice (some ⟨g, 0, none⟩) n cap ∧ base ≤ g ∧ g < W.heap.size ∧ n ≤ cap ∧ cap ≤ 9223372036854775807 ∧ (∃ cur, W.heap[g]? = some (.cells cur e (0, 0))) ∧ (∀ (j : Nat) (u : Value), xs[j]? = some u → W.cell? ⟨g, j, none⟩ = some u) ∧ ∀ j, W.frozen? ⟨g, j, none⟩ = false := by
  obtain ⟨h1, h2⟩ := h
  rcases h2 with ⟨_, h0⟩ | ⟨g, cap, cur, rfl, hg, hh, hn, hc, hs, ht⟩
  · omega
  · refine ⟨g, cap, rfl, hg, heap_lt hh, hn, by unfold maxLen at hc; omega, ⟨cur, hh⟩, fun j u hj => ?_, fun j => by simp [World.frozen?, hh]⟩
    have hjn : j < n * 2 := by rw [← h1]; exact (List.getElem?_eq_some_iff.1 hj).1
    rw [cell_of_row W g j _ _ (0, 0) hh, ← hj, ← ht, List.getElem?_take, if_pos hjn]
    simp

/-- What widen tells. -/
def RetWid (base : Nat) (v : Value) (y : Pl) (w : World) (e : Ending) (w' : World) : Prop := ∃ v', e = .returned (plA v' y) ∧ w'.ownsRow base 61 2 v' y.ps.length (pcsCells y.ps) ∧ Apart (fun b => v.ownBlock = some b) w w' ∧ ((∃ b, v.ownBlock = some b ∧ v'.ownBlock = some b) ∨ ∃ b, v'.ownBlock = some b ∧ w.heap.size ≤ b)

set_option maxRecDepth 100000 in
set_option maxHeartbeats 4000000 in
theorem widen_same (base : Nat) (v : Value) (x : Pl) (qs : List Pc) (y : Pc) (hx : x.ps = qs ++ [y]) (u t : Int) (w : World) (h : w.ownsRow base 61 2 v x.ps.length (pcsCells x.ps)) (hl : x.ps.length ≤ 1000) (hs : 0 ≤ x.s) (hs2 : x.s ≤ 2000000) (hT : y.t < 18446744073709551616) :
    Calls Try.prog 74 #[plA v x, .int .i64 u, .int .i64 y.c, .int .i64 t] w (RetWid base v (widT x u y.c (ofI [t])) w) := by
  obtain ⟨kk, hkk⟩ : ∃ kk, ofI [t] = kk := ⟨_, rfl⟩
  have HKK := Lib.hid hkk
  rw [hkk]
  obtain ⟨xu, xs, xc, xps⟩ := x
  simp only at hx h hl hs hs2
  subst hx
  obtain ⟨yc, T0⟩ := y
  simp only at hT ⊢
  have hbits : bits BinOp.or IntKind.u64 (T0 : Int) (kk : Int) = ((T0 ||| kk : Nat) : Int) := bits_or_u64_nat _ _ hT (by rw [← hkk]; exact ofI_lt _)
  obtain ⟨TK, hTK⟩ : ∃ TK, T0 ||| kk = TK := ⟨_, rfl⟩
  rw [hTK] at hbits
  have HTK := Lib.hid hTK
  obtain ⟨ki, hki⟩ : ∃ ki, qs.length = ki := ⟨_, rfl⟩
  obtain ⟨np1, hnp⟩ : ∃ np1, (qs ++ [(⟨yc, T0⟩ : Pc)]).length = np1 := ⟨_, rfl⟩
  have hnk : np1 = ki + 1 := by rw [← hnp, ← hki]; simp
  rw [hnp] at h hl
  rw [pcs_snoc_cells] at h
  obtain ⟨g, cap, rfl, hbg, hgl, hnc, hcap, ⟨cur, hcur⟩, hat, _⟩ := ownP_lies h (by omega)
  have g0 := hat (ki * 2) (.int .i64 yc) (by rw [← hki, List.getElem?_append_right (by rw [pcsCells_length]; omega), pcsCells_length, Nat.sub_self]; rfl)
  obtain ⟨w1, N, hw1, hN, hNl, hb1, hnb⟩ := box_any w #[.int .i64 xu, .int .i64 xs, .int .i64 xc, .slice (some ⟨g, 0, none⟩) np1 cap] 56
  obtain ⟨w2, R, hw2, hR, hRl, hb2, hrb⟩ := box_any w1 #[.int .i64 0, .int .i64 0, .int .i64 0, .slice none 0 0] 56
  have hk := hb1.trans (hb2.mono hb1.size)
  have HK := Lib.hid hk
  have HNX := Lib.hid (keep_block hnb hb2)
  have HRX := Lib.hid hrb
  have HOWN := Lib.hid (own_below5 h hk)
  have HAP := Lib.hid (Apart.of_below (F := fun b => (Value.slice (some ⟨g, 0, none⟩) np1 cap).ownBlock = some b) hk)
  have HLT := Lib.hid (show w.heap.size ≤ N ∧ w.heap.size ≤ R ∧ N < R by have := hb1.size; omega)
  have HGA := Lib.hid (show (Value.slice (some ⟨g, 0, none⟩) np1 cap).ownBlock = some g ∨ w.heap.size ≤ g from .inl rfl)
  have hRg : R ≠ g := by have := hb1.size; omega
  have HWP : Hid (pcsCells (widP (qs ++ [(⟨yc, T0⟩ : Pc)]) yc kk) = pcsCells qs ++ [.int .i64 yc, .int .u64 (TK : Int)] ∧ (widP (qs ++ [(⟨yc, T0⟩ : Pc)]) yc kk).length = np1) := Lib.hid (by
    rw [widP_same qs ⟨yc, T0⟩ kk, pcs_snoc_cells, HTK.out]
    exact ⟨rfl, by rw [← hnp]; simp⟩)
  have hNg : N ≠ g := by omega
  have c0 := (hk.cell (p := ⟨g, ki * 2, none⟩) hgl).trans g0
  obtain ⟨n0, n1, n2, n3⟩ := four_heads HNX.out
  have e1 : (np1 : Int) - 1 = (ki : Int) := by omega
  have hk0 : (0 : Int) ≤ (ki : Int) := by omega
  have hkz : (ki : Int) < (np1 : Int) := by omega
  have hcc : (yc != yc) = false := by simp
  have hlt0 : ¬ (ki : Int) < 0 := by omega
  have hlt1 : decide ((ki : Int) < 0) = false := decide_eq_false hlt0
  have HNK := Lib.hid hnk
  have HKI := Lib.hid hki
  clear hat g0 hk hnb hrb hb1 hb2 h hkk hnk hki hnp hT hTK
  unfold plA
  go_enter Try.func74, Try.ntmps74
  go_wp2_with fail
  clear n0 n1 n2 n3 hw1 hw2 hN hR
  have hki := HKI.out
  have hnk := HNK.out
  have hq0 : (0 : Int) ≤ (ki : Int) := by omega
  have hqz : (ki : Int) < (np1 : Int) := by omega
  obtain ⟨n0, n1, n2, n3⟩ := four_heads HNX.out
  have lN := heap_lt HNX.out
  obtain ⟨g', cap', hA', _, lg, _, _, _, hat, hfr⟩ := ownP_lies HOWN.out (by omega)
  injection hA' with hA' hA1 hA2; clear hA1 hA2
  injection hA' with hA'
  injection hA' with hA'
  subst hA'
  have t0 : w2.cell? ⟨g, ki * 2 + 1, none⟩ = some (.int .u64 T0) := hat _ _ (by rw [← hki, List.getElem?_append_right (by rw [pcsCells_length]; omega), pcsCells_length]; rw [show qs.length * 2 + 1 - qs.length * 2 = 1 by omega]; rfl)
  have hfz5 : ∀ W, Below w2.heap.size w2 W → W.frozen? ⟨g, ki * 2 + 1, none⟩ = false := fun W hk => frozen_same (hk.block g lg) ▸ hfr _
  clear hat hfr hki hnk
  go_wp2_with fail
  refine wp_region_N (S1 := fun w' => w'.cell? ⟨N, 3, none⟩ = some (.slice (some ⟨g, 0, none⟩) np1 cap)) (S2 := fun w' => w'.cell? ⟨g, ki * 2 + 1, none⟩ = some (.int .u64 T0)) (N := fun i => i != 12) (by kernel_rfl) ?_
  change wpAnyN _ _ _ _ _ _ _ 13 (Array.replicate 13 false) _ _
  refine wpAnyN_take false (i := 0) (oi := ⟨some 35, _, _, _, _, _⟩) (v := ?_) rfl (by kernel_rfl) (by kernel_rfl) (by kernel_rfl) (fun _ _ _ h => h) (Or.inl ⟨by kernel_rfl, ?_⟩) ⟨n3, fun h => (by cases h)⟩ ?_
  rotate_left
  · (intro w hSw; obtain ⟨hSa, hSb⟩ := hSw; clear hSb; (try dsimp only at hSa); go_simp; try with_reducible rfl)
  (try simp only [Act.put, List.setIfInBounds_toArray, List.set_cons_zero, List.set_cons_succ])
  refine wpAnyN_take false (i := 1) (oi := ⟨some 36, _, _, _, _, _⟩) (v := ?_) rfl (by kernel_rfl) (by kernel_rfl) (by kernel_rfl) (fun _ _ _ h => h) (Or.inl ⟨by kernel_rfl, ?_⟩) ⟨n3, fun h => (by cases h)⟩ ?_
  rotate_left
  · (intro w hSw; obtain ⟨hSa, hSb⟩ := hSw; clear hSb; (try dsimp only at hSa); go_simp; try with_reducible rfl)
  (try simp only [Act.put, List.setIfInBounds_toArray, List.set_cons_zero, List.set_cons_succ])
  refine wpAnyN_take false (i := 2) (oi := ⟨some 37, _, _, _, _, _⟩) (v := ?_) rfl (by kernel_rfl) (by kernel_rfl) (by kernel_rfl) (fun _ _ _ h => h) (Or.inl ⟨by kernel_rfl, ?_⟩) ⟨n3, fun h => (by cases h)⟩ ?_
  rotate_left
  · (intro w hSw; obtain ⟨hSa, hSb⟩ := hSw; clear hSb; (try dsimp only at hSa); go_simp; try with_reducible rfl)
  (try simp only [Act.put, List.setIfInBounds_toArray, List.set_cons_zero, List.set_cons_succ])
  refine wpAnyN_take false (i := 3) (oi := ⟨some 38, _, _, _, _, _⟩) (v := ?_) rfl (by kernel_rfl) (by kernel_rfl) (by kernel_rfl) (fun _ _ _ h => h) (Or.inl ⟨by kernel_rfl, ?_⟩) ⟨n3, fun h => (by cases h)⟩ ?_
  rotate_left
  · (intro w hSw; obtain ⟨hSa, hSb⟩ := hSw; clear hSb; (try dsimp only at hSa); go_simp; try with_reducible rfl)
  (try simp only [Act.put, List.setIfInBounds_toArray, List.set_cons_zero, List.set_cons_succ])
  refine wpAnyN_take false (i := 4) (oi := ⟨some 39, _, _, _, _, _⟩) (v := ?_) rfl (by kernel_rfl) (by kernel_rfl) (by kernel_rfl) (fun _ _ _ h => h) (Or.inl ⟨by kernel_rfl, ?_⟩) ⟨n3, fun h => (by cases h)⟩ ?_
  rotate_left
  · (intro w hSw; obtain ⟨hSa, hSb⟩ := hSw; clear hSb; (try dsimp only at hSa); go_simp; try with_reducible rfl)
  (try simp only [Act.put, List.setIfInBounds_toArray, List.set_cons_zero, List.set_cons_succ])
  refine wpAnyN_take true (i := 5) (oi := ⟨some 40, _, _, _, _, _⟩) (v := ?_) rfl (by kernel_rfl) (by kernel_rfl) (by kernel_rfl) (fun _ _ _ h => h) (Or.inl ⟨by kernel_rfl, ?_⟩) ⟨n3, fun _ => t0⟩ ?_
  rotate_left
  · (intro w hSw; obtain ⟨hSa, hSb⟩ := hSw; have hSc := hSb rfl; clear hSb; (try dsimp only at hSa hSc); go_simp; try with_reducible rfl)
  (try simp only [Act.put, List.setIfInBounds_toArray, List.set_cons_zero, List.set_cons_succ])
  refine wpAnyN_take false (i := 6) (oi := ⟨some 41, _, _, _, _, _⟩) (v := ?_) rfl (by kernel_rfl) (by kernel_rfl) (by kernel_rfl) (fun _ _ _ h => h) (Or.inl ⟨by kernel_rfl, ?_⟩) ⟨n3, fun h => (by cases h)⟩ ?_
  rotate_left
  · (intro w hSw; obtain ⟨hSa, hSb⟩ := hSw; clear hSb; (try dsimp only at hSa); go_simp; try with_reducible rfl)
  (try simp only [Act.put, List.setIfInBounds_toArray, List.set_cons_zero, List.set_cons_succ])
  refine wpAnyN_step (i := 7) (by kernel_rfl) rfl (by kernel_rfl) ?_
  intro K' hK
  (try simp only [Act.put, List.setIfInBounds_toArray, List.set_cons_zero, List.set_cons_succ])
  obtain ⟨wq1, J, hwJ, hJ, hJl, hb1, hjb⟩ := box_any w2.drew #[.int .i64 t] 3
  go_simp
  refine hK.out _ _ ((hb1.cell (p := ⟨N, 3, none⟩) lN).trans n3) (fun _ _ => (hb1.cell (p := ⟨g, ki * 2 + 1, none⟩) lg).trans t0) ?_
  clear hK K'
  (try simp only [Act.put, List.setIfInBounds_toArray, List.set_cons_zero, List.set_cons_succ])
  clear hwJ
  refine wpAnyN_step (i := 8) (by kernel_rfl) rfl (by kernel_rfl) ?_
  intro K' hK
  (try simp only [Act.put, List.setIfInBounds_toArray, List.set_cons_zero, List.set_cons_succ])
  go_simp
  have hjt : IntsAt wq1 (.slice (some ⟨J, 0, none⟩) 1 1) [t] := RowAt.ints (show RowAt wq1 J [t] from hjb) (by show 1 ≤ 9223372036854775807; omega) 1
  go_at_call 52; refine (of_any [t] _ wq1 hjt).mono ?_; rintro e wq2 ⟨rfl, rfl⟩
  rw [HKK.out]
  refine hK.out _ _ ((hb1.cell (p := ⟨N, 3, none⟩) lN).trans n3) (fun _ _ => (hb1.cell (p := ⟨g, ki * 2 + 1, none⟩) lg).trans t0) ?_
  clear hK K'
  (try simp only [Act.put, List.setIfInBounds_toArray, List.set_cons_zero, List.set_cons_succ])
  have z0 : wq1.cell? ⟨g, ki * 2 + 1, none⟩ = some (.int .u64 T0) := (hb1.cell (p := ⟨g, ki * 2 + 1, none⟩) lg).trans t0
  have z1 : wq1.frozen? ⟨g, ki * 2 + 1, none⟩ = false := hfz5 _ ((Below.refl _ _).drew.trans hb1)
  refine wpAnyN_take false (i := 9) (oi := ⟨some 44, _, _, _, _, _⟩) (v := ?_) rfl (by kernel_rfl) (by kernel_rfl) (by kernel_rfl) (fun _ _ _ h => h) (Or.inl ⟨by kernel_rfl, ?_⟩) ⟨(hb1.cell (p := ⟨N, 3, none⟩) lN).trans n3, fun h => (by cases h)⟩ ?_
  rotate_left
  · (intro w hSw; obtain ⟨hSa, hSb⟩ := hSw; clear hSb; (try dsimp only at hSa); go_simp; try with_reducible rfl)
  (try simp only [Act.put, List.setIfInBounds_toArray, List.set_cons_zero, List.set_cons_succ])
  refine wpAnyN_take false (i := 10) (oi := ⟨some 45, _, _, _, _, _⟩) (v := ?_) rfl (by kernel_rfl) (by kernel_rfl) (by kernel_rfl) (fun _ _ _ h => h) (Or.inl ⟨by kernel_rfl, ?_⟩) ⟨(hb1.cell (p := ⟨N, 3, none⟩) lN).trans n3, fun h => (by cases h)⟩ ?_
  rotate_left
  · (intro w hSw; obtain ⟨hSa, hSb⟩ := hSw; clear hSb; (try dsimp only at hSa); go_simp; try with_reducible rfl)
  (try simp only [Act.put, List.setIfInBounds_toArray, List.set_cons_zero, List.set_cons_succ])
  refine wpAnyN_take false (i := 11) (oi := ⟨some 46, _, _, _, _, _⟩) (v := ?_) rfl (by kernel_rfl) (by kernel_rfl) (by kernel_rfl) (fun _ _ _ h => h) (Or.inl ⟨by kernel_rfl, ?_⟩) ⟨(hb1.cell (p := ⟨N, 3, none⟩) lN).trans n3, fun h => (by cases h)⟩ ?_
  rotate_left
  · (intro w hSw; obtain ⟨hSa, hSb⟩ := hSw; clear hSb; (try dsimp only at hSa); go_simp; try with_reducible rfl)
  (try simp only [Act.put, List.setIfInBounds_toArray, List.set_cons_zero, List.set_cons_succ])
  refine wpAnyN_step (i := 12) (by kernel_rfl) rfl (by kernel_rfl) ?_
  intro K' hK
  (try simp only [Act.put, List.setIfInBounds_toArray, List.set_cons_zero, List.set_cons_succ])
  go_simp
  refine hK.out _ _ ((cell_set_ne (p := ⟨g, ki * 2 + 1, none⟩) (q := ⟨N, 3, none⟩) hNg).trans ((hb1.cell (p := ⟨N, 3, none⟩) lN).trans n3)) (fun h => by cases h) ?_
  clear hK K'
  (try simp only [Act.put, List.setIfInBounds_toArray, List.set_cons_zero, List.set_cons_succ])
  refine wpAnyN_done (by kernel_rfl) ?_
  have hkq : Below w2.heap.size w2 wq1 := (Below.refl _ _).drew.trans hb1
  obtain ⟨wS, hwS⟩ : ∃ wS, wq1.setCell ⟨g, ki * 2 + 1, none⟩ (.int .u64 (TK : Int)) = wS := ⟨_, rfl⟩
  rw [hwS]
  have lgq := Nat.lt_of_lt_of_le lg hkq.size
  have HAS : Hid (Apart (fun b => (Value.slice (some ⟨g, 0, none⟩) np1 cap).ownBlock = some b) w wS) := Lib.hid (by
    rw [← hwS]
    exact (HAP.out.trans (Apart.of_below (F := fun _ => False) hkq) fun _ _ h => h.elim).set (p := ⟨g, ki * 2 + 1, none⟩) HGA.out _)
  have HNS : Hid (wS.heap[N]? = some (.cells #[.int .i64 xu, .int .i64 xs, .int .i64 xc, .slice (some ⟨g, 0, none⟩) np1 cap] 56 (0, 0))) := Lib.hid (by
    rw [← hwS]
    exact (Below.heap_setCell _ _ _ _ hNg).trans (keep_block HNX.out hkq))
  have HRS : Hid (wS.heap[R]? = some (.cells #[.int .i64 0, .int .i64 0, .int .i64 0, .slice none 0 0] 56 (0, 0))) := Lib.hid (by
    rw [← hwS]
    exact (Below.heap_setCell _ _ _ _ hRg).trans (keep_block HRX.out hkq))
  have HOS : Hid (wS.ownsRow base 61 2 (.slice (some ⟨g, 0, none⟩) np1 cap) np1 (pcsCells qs ++ [.int .i64 yc, .int .u64 (TK : Int)])) := Lib.hid (by
    have h := own_set (own_below5 HOWN.out hkq) (k := ki * 2 + 1) (.int .u64 (TK : Int))
    rw [← HKI.out, pcs_set_last, HKI.out] at h
    rw [← hwS]
    exact h)
  have HN1 : Hid ((wS.setCell ⟨N, 0, none⟩ (.int .i64 u)).heap[N]? = some (.cells #[.int .i64 u, .int .i64 xs, .int .i64 xc, .slice (some ⟨g, 0, none⟩) np1 cap] 56 (0, 0))) := heap_setCell_mem _ _ _ _ _ _ _ HNS.out
  have HN2 : Hid (((wS.setCell ⟨N, 0, none⟩ (.int .i64 u)).setCell ⟨N, 1, none⟩ (.int .i64 (xs + 1))).heap[N]? = some (.cells #[.int .i64 u, .int .i64 (xs + 1), .int .i64 xc, .slice (some ⟨g, 0, none⟩) np1 cap] 56 (0, 0))) := heap_setCell_mem _ _ _ _ _ _ _ HN1.out
  have hlt := HLT.out
  have HR2 : Hid (((wS.setCell ⟨N, 0, none⟩ (.int .i64 u)).setCell ⟨N, 1, none⟩ (.int .i64 (xs + 1))).heap[R]? = some (.cells #[.int .i64 0, .int .i64 0, .int .i64 0, .slice none 0 0] 56 (0, 0))) := Lib.hid ((Below.heap_setCell _ _ _ _ (show R ≠ N by omega)).trans ((Below.heap_setCell _ _ _ _ (show R ≠ N by omega)).trans HRS.out))
  clear n0 n1 n2 n3 t0 z0 z1 hfz5 hjt hjb hbits hb1 hkq lgq hwS
  obtain ⟨n0, n1, n2, n3⟩ := four_heads HNS.out
  obtain ⟨m0, m1, m2, m3⟩ := four_heads HN1.out
  obtain ⟨k0, k1, k2, k3⟩ := four_heads HN2.out
  have fr6 : wS.frozen? ⟨N, 0, none⟩ = false := by have e := HNS.out; simp [World.frozen?, e]
  have fr7 : (wS.setCell ⟨N, 0, none⟩ (.int .i64 u)).frozen? ⟨N, 1, none⟩ = false := by have e := HN1.out; simp [World.frozen?, e]
  go_wp2_with (refine wpList_store_row rfl _ _ _ rfl R #[.int .i64 u, .int .i64 (xs + 1), .int .i64 xc, .slice (some ⟨g, 0, none⟩) np1 cap] rfl rfl 56 _ HR2.out (Try.sizePl _ _ _ _) rfl (one4 _ _ _ _ _ _) ?_)
  refine bodyPost_ret (v := plA (.slice (some ⟨g, 0, none⟩) np1 cap) ⟨u, xs + 1, xc, widP (qs ++ [(⟨yc, T0⟩ : Pc)]) yc kk⟩) (results_cell_row rfl _ _ R _ _ _ _ rfl (setRow_heap _ _ _ _ _ _ HR2.out) Try.underlying56 rfl (Try.sizePl _ _ _ _)) rfl ?_
  refine ⟨_, rfl, ?_, ?_, ?_⟩
  · obtain ⟨w1', w2'⟩ := HWP.out
    show World.ownsRow _ base 61 2 _ (widP (qs ++ [(⟨yc, T0⟩ : Pc)]) yc kk).length (pcsCells (widP (qs ++ [(⟨yc, T0⟩ : Pc)]) yc kk))
    rw [w1', w2']
    refine own_keep HOS.out fun k hk => ?_
    cases hk
    exact (setRow_other _ _ _ _ (Ne.symm hRg)).trans ((Below.heap_setCell _ _ _ _ (Ne.symm hNg)).trans (Below.heap_setCell _ _ _ _ (Ne.symm hNg)))
  · refine ((HAS.out.set (p := ⟨N, 0, none⟩) (.inr hlt.1) _).set (p := ⟨N, 1, none⟩) (.inr hlt.1) _).trans (F' := fun k => k = R) ⟨rfl, rfl, rfl, by simp [World.setRow, World.setCell], fun k _ hn => setRow_other _ _ _ _ hn⟩ fun k hk e => ?_
    omega
  · rcases HGA.out with h | h
    · exact .inl ⟨g, h, rfl⟩
    · exact .inr ⟨g, rfl, h⟩

set_option maxRecDepth 100000 in
set_option maxHeartbeats 8000000 in
theorem widen_grow (base : Nat) (v : Value) (x : Pl) (c u t : Int) (hno : ∀ y, x.ps.getLast? = some y → y.c ≠ c) (w : World) (h : w.ownsRow base 61 2 v x.ps.length (pcsCells x.ps)) (hl : x.ps.length ≤ 1000) (hs : 0 ≤ x.s) (hs2 : x.s ≤ 2000000) (hb : base ≤ w.heap.size) :
    Calls Try.prog 74 #[plA v x, .int .i64 u, .int .i64 c, .int .i64 t] w (RetWid base v (⟨u, x.s + 1, x.c, x.ps ++ [⟨c, ofI [t]⟩]⟩) w) := by
  obtain ⟨i0, hi, hz0, hz1, hz2⟩ := info_parts Try.infoPc
  obtain ⟨kk, hkk⟩ : ∃ kk, ofI [t] = kk := ⟨_, rfl⟩
  have HKK := Lib.hid hkk
  obtain ⟨T0, hT0⟩ : ∃ T0 : Nat, T0 = 0 := ⟨_, rfl⟩
  have hbits : bits BinOp.or IntKind.u64 (T0 : Int) (kk : Int) = (kk : Int) := by
    rw [bits_or_u64_nat _ _ (by omega) (by rw [← hkk]; exact ofI_lt _), hT0, Nat.zero_or]
  rw [hkk]
  obtain ⟨xu, xs, xc, qs⟩ := x
  simp only at hno h hl hs hs2
  simp only
  obtain ⟨ki, hki⟩ : ∃ ki, qs.length = ki := ⟨_, rfl⟩
  have HKI := Lib.hid hki
  obtain ⟨lz, e1⟩ : ∃ lz : Int, (ki : Int) - 1 = lz := ⟨_, rfl⟩
  have e2 : lz + 1 = (ki : Int) := by omega
  have HLZ := Lib.hid e1
  have hlb : -1 ≤ lz := by omega
  rw [hki] at h hl
  obtain ⟨A, cap0, rfl⟩ := own_form h
  obtain ⟨w1, N, hw1, hN, hNl, hb1, hnb⟩ := box_any w #[.int .i64 xu, .int .i64 xs, .int .i64 xc, .slice A ki cap0] 56
  obtain ⟨w2, R, hw2, hR, hRl, hb2, hrb⟩ := box_any w1 #[.int .i64 0, .int .i64 0, .int .i64 0, .slice none 0 0] 56
  have hk := hb1.trans (hb2.mono hb1.size)
  have HK := Lib.hid hk
  have HN0 := Lib.hid (keep_block hnb hb2)
  have HR0 := Lib.hid hrb
  have HO := Lib.hid (own_below5 h hk)
  have HOL := Lib.hid (show ∀ b, (Value.slice A ki cap0).ownBlock = some b → b < w.heap.size from fun b hb => own_lt h hb)
  have HLT := Lib.hid (show w.heap.size ≤ N ∧ w.heap.size ≤ R ∧ N < R by have := hb1.size; omega)
  have hsz := hk.size
  have hbz : base ≤ w2.heap.size := Nat.le_trans hb hsz
  obtain ⟨n0, n1, n2, n3⟩ := four_heads HN0.out
  rcases qs.eq_nil_or_concat with hq | ⟨q0, y, hq⟩
  · have HTZ : Hid ((T0 : Int) = 0) := Lib.hid (by omega)
    have hlz : lz < 0 := by
      have : ki = 0 := by rw [← hki, hq]; rfl
      omega
    have hlz2 : decide (lz < 0) = true := decide_eq_true hlz
    clear hk hnb hrb hb1 hb2 hkk hki hb hT0 hq
    unfold plA
    go_enter Try.func74, Try.ntmps74
    go_wp2_with (at_builtin; refine wpList_append_own_at _ rfl _ _ 54 rfl base 61 i0 (.agg #[.int .i64 0, .int .u64 0]) 2 16 Try.underlying54 hi hz0 hz1 hz2 rfl (by decide) _ _ _ rfl (HO.out.alloc _) ⟨w2.heap.size, 0, none⟩ 1 1 [.int .i64 c, .int .u64 0] rfl rfl ?c1 ?c2 ?c3 ?c4 ?c5 ?_)
    try (case c1 => exact World.news_of_block (heap_alloc_new _ _))
    try (case c2 => first | exact ⟨rfl, rfl⟩ | (intro q hq; simp at hq; rcases hq with rfl | rfl <;> rfl))
    try (case c3 => unfold maxLen; omega)
    try (case c4 => omega)
    try (case c5 => first | omega | (simp; omega))
    intro v6 w6 hown6 hgrow _ hat
    obtain ⟨np1, hnp1⟩ : ∃ np1, ki + 1 = np1 := ⟨_, rfl⟩
    have HNK := Lib.hid (show np1 = ki + 1 from hnp1.symm)
    rw [hnp1] at hown6
    obtain ⟨g, cap, rfl, hbg, hgl, hnc, hcap, _, _, _⟩ := ownP_lies hown6 (by omega)
    have hba := (Below.refl w2.heap.size w2).alloc (Nat.le_refl _) (.cells #[.int .i64 c, .int .u64 0] 61)
    have hlt := HLT.out
    have hNo : ∀ b, (Value.slice A ki cap0).ownBlock = some b → b ≠ N ∧ b ≠ R := fun b hb => by have := HOL.out b hb; omega
    have HGA : Hid ((Value.slice A ki cap0).ownBlock = some g ∨ w.heap.size ≤ g) := Lib.hid (by
      rcases hat with hat | hat
      · exact .inl hat.symm
      · right
        have e := Option.some.inj hat
        simp at e
        omega)
    have hNg : N ≠ g := by
      rcases hat with hat | hat
      · exact fun e => (hNo g hat.symm).1 e.symm
      · have e := Option.some.inj hat
        simp at e
        omega
    have hRg : R ≠ g := by
      rcases hat with hat | hat
      · exact fun e => (hNo g hat.symm).2 e.symm
      · have e := Option.some.inj hat
        simp at e
        omega
    have HN6 : Hid (w6.heap[N]? = some (.cells #[.int .i64 xu, .int .i64 xs, .int .i64 xc, .slice A ki cap0] 56 (0, 0))) := Lib.hid ((hgrow.block N (by simp; omega) (fun e => (hNo N e.symm).1 rfl)).trans (keep_block HN0.out hba))
    have HR6 : Hid (w6.heap[R]? = some (.cells #[.int .i64 0, .int .i64 0, .int .i64 0, .slice none 0 0] 56 (0, 0))) := Lib.hid ((hgrow.block R (by simp; omega) (fun e => (hNo R e.symm).2 rfl)).trans (keep_block HR0.out hba))
    have HA6 : Hid (Apart (fun b => (Value.slice A ki cap0).ownBlock = some b) w w6) := Lib.hid ((Apart.of_below (F := fun b => (Value.slice A ki cap0).ownBlock = some b) (HK.out.trans (hba.mono HK.out.size))).trans (F' := fun b => (Value.slice A ki cap0).ownBlock = some b) ⟨hgrow.os, hgrow.tape, hgrow.output, hgrow.size, fun k hk hn => hgrow.block k hk fun e => hn e.symm⟩ fun _ _ h => h)
    have fr0 : w6.frozen? ⟨N, 3, none⟩ = false := by have e := HN6.out; simp [World.frozen?, e]
    obtain ⟨y0, y1, y2, y3⟩ := four_heads HN6.out
    obtain ⟨w7, hw7⟩ : ∃ w7, w6.setCell ⟨N, 3, none⟩ (.slice (some ⟨g, 0, none⟩) np1 cap) = w7 := ⟨_, rfl⟩
    have HNX : Hid (w7.heap[N]? = some (.cells #[.int .i64 xu, .int .i64 xs, .int .i64 xc, .slice (some ⟨g, 0, none⟩) np1 cap] 56 (0, 0))) := Lib.hid (by rw [← hw7]; exact heap_setCell_mem _ _ _ _ _ _ _ HN6.out)
    have HRX : Hid (w7.heap[R]? = some (.cells #[.int .i64 0, .int .i64 0, .int .i64 0, .slice none 0 0] 56 (0, 0))) := Lib.hid (by rw [← hw7]; exact (Below.heap_setCell _ _ _ _ (show R ≠ N by omega)).trans HR6.out)
    have HOWN : Hid (w7.ownsRow base 61 2 (.slice (some ⟨g, 0, none⟩) np1 cap) np1 (pcsCells qs ++ [.int .i64 c, .int .u64 (T0 : Int)])) := Lib.hid (by
      rw [← hw7, HTZ.out]
      exact own_keep hown6 fun k hk => (by cases hk; exact Below.heap_setCell _ _ _ _ (Ne.symm hNg)))
    have HAP : Hid (Apart (fun b => (Value.slice A ki cap0).ownBlock = some b) w w7) := Lib.hid (by rw [← hw7]; exact HA6.out.set (p := ⟨N, 3, none⟩) (.inr hlt.1) _)
    have HWP : Hid (pcsCells (qs ++ [(⟨c, kk⟩ : Pc)]) = pcsCells qs ++ [.int .i64 c, .int .u64 (kk : Int)] ∧ (qs ++ [(⟨c, kk⟩ : Pc)]).length = np1) := Lib.hid (by
      rw [pcs_snoc_cells]
      exact ⟨rfl, by rw [List.length_append, HKI.out, HNK.out]; rfl⟩)
    have hk0 : (0 : Int) ≤ (ki : Int) := by omega
    obtain ⟨z0', z1', z2', z3'⟩ := four_heads HNX.out
    clear hown6 hgrow hat hba hNo n0 n1 n2 n3 hw1 hw2 hN hR hnp1 hlt
    go_wp2_with fail
    clear y0 y1 y2 y3 z0' z1' z2' z3'
    have hki := HKI.out
    have hnk := HNK.out
    have hq0 : (0 : Int) ≤ (ki : Int) := by omega
    have hqz : (ki : Int) < (np1 : Int) := by omega
    obtain ⟨n0, n1, n2, n3⟩ := four_heads HNX.out
    have lN := heap_lt HNX.out
    obtain ⟨g', cap', hA', _, lg, _, _, _, hat, hfr⟩ := ownP_lies HOWN.out (by omega)
    injection hA' with hA' hA1 hA2; clear hA1 hA2
    injection hA' with hA'
    injection hA' with hA'
    subst hA'
    have t0 : w7.cell? ⟨g, ki * 2 + 1, none⟩ = some (.int .u64 T0) := hat _ _ (by rw [← hki, List.getElem?_append_right (by rw [pcsCells_length]; omega), pcsCells_length]; rw [show qs.length * 2 + 1 - qs.length * 2 = 1 by omega]; rfl)
    have hfz5 : ∀ W, Below w7.heap.size w7 W → W.frozen? ⟨g, ki * 2 + 1, none⟩ = false := fun W hk => frozen_same (hk.block g lg) ▸ hfr _
    clear hat hfr hki hnk
    go_wp2_with fail
    refine wp_region_N (S1 := fun w' => w'.cell? ⟨N, 3, none⟩ = some (.slice (some ⟨g, 0, none⟩) np1 cap)) (S2 := fun w' => w'.cell? ⟨g, ki * 2 + 1, none⟩ = some (.int .u64 T0)) (N := fun i => i != 12) (by kernel_rfl) ?_
    change wpAnyN _ _ _ _ _ _ _ 13 (Array.replicate 13 false) _ _
    refine wpAnyN_take false (i := 0) (oi := ⟨some 35, _, _, _, _, _⟩) (v := ?_) rfl (by kernel_rfl) (by kernel_rfl) (by kernel_rfl) (fun _ _ _ h => h) (Or.inl ⟨by kernel_rfl, ?_⟩) ⟨n3, fun h => (by cases h)⟩ ?_
    rotate_left
    · (intro w hSw; obtain ⟨hSa, hSb⟩ := hSw; clear hSb; (try dsimp only at hSa); go_simp; try with_reducible rfl)
    (try simp only [Act.put, List.setIfInBounds_toArray, List.set_cons_zero, List.set_cons_succ])
    refine wpAnyN_take false (i := 1) (oi := ⟨some 36, _, _, _, _, _⟩) (v := ?_) rfl (by kernel_rfl) (by kernel_rfl) (by kernel_rfl) (fun _ _ _ h => h) (Or.inl ⟨by kernel_rfl, ?_⟩) ⟨n3, fun h => (by cases h)⟩ ?_
    rotate_left
    · (intro w hSw; obtain ⟨hSa, hSb⟩ := hSw; clear hSb; (try dsimp only at hSa); go_simp; try with_reducible rfl)
    (try simp only [Act.put, List.setIfInBounds_toArray, List.set_cons_zero, List.set_cons_succ])
    refine wpAnyN_take false (i := 2) (oi := ⟨some 37, _, _, _, _, _⟩) (v := ?_) rfl (by kernel_rfl) (by kernel_rfl) (by kernel_rfl) (fun _ _ _ h => h) (Or.inl ⟨by kernel_rfl, ?_⟩) ⟨n3, fun h => (by cases h)⟩ ?_
    rotate_left
    · (intro w hSw; obtain ⟨hSa, hSb⟩ := hSw; clear hSb; (try dsimp only at hSa); go_simp; try with_reducible rfl)
    (try simp only [Act.put, List.setIfInBounds_toArray, List.set_cons_zero, List.set_cons_succ])
    refine wpAnyN_take false (i := 3) (oi := ⟨some 38, _, _, _, _, _⟩) (v := ?_) rfl (by kernel_rfl) (by kernel_rfl) (by kernel_rfl) (fun _ _ _ h => h) (Or.inl ⟨by kernel_rfl, ?_⟩) ⟨n3, fun h => (by cases h)⟩ ?_
    rotate_left
    · (intro w hSw; obtain ⟨hSa, hSb⟩ := hSw; clear hSb; (try dsimp only at hSa); go_simp; try with_reducible rfl)
    (try simp only [Act.put, List.setIfInBounds_toArray, List.set_cons_zero, List.set_cons_succ])
    refine wpAnyN_take false (i := 4) (oi := ⟨some 39, _, _, _, _, _⟩) (v := ?_) rfl (by kernel_rfl) (by kernel_rfl) (by kernel_rfl) (fun _ _ _ h => h) (Or.inl ⟨by kernel_rfl, ?_⟩) ⟨n3, fun h => (by cases h)⟩ ?_
    rotate_left
    · (intro w hSw; obtain ⟨hSa, hSb⟩ := hSw; clear hSb; (try dsimp only at hSa); go_simp; try with_reducible rfl)
    (try simp only [Act.put, List.setIfInBounds_toArray, List.set_cons_zero, List.set_cons_succ])
    refine wpAnyN_take true (i := 5) (oi := ⟨some 40, _, _, _, _, _⟩) (v := ?_) rfl (by kernel_rfl) (by kernel_rfl) (by kernel_rfl) (fun _ _ _ h => h) (Or.inl ⟨by kernel_rfl, ?_⟩) ⟨n3, fun _ => t0⟩ ?_
    rotate_left
    · (intro w hSw; obtain ⟨hSa, hSb⟩ := hSw; have hSc := hSb rfl; clear hSb; (try dsimp only at hSa hSc); go_simp; try with_reducible rfl)
    (try simp only [Act.put, List.setIfInBounds_toArray, List.set_cons_zero, List.set_cons_succ])
    refine wpAnyN_take false (i := 6) (oi := ⟨some 41, _, _, _, _, _⟩) (v := ?_) rfl (by kernel_rfl) (by kernel_rfl) (by kernel_rfl) (fun _ _ _ h => h) (Or.inl ⟨by kernel_rfl, ?_⟩) ⟨n3, fun h => (by cases h)⟩ ?_
    rotate_left
    · (intro w hSw; obtain ⟨hSa, hSb⟩ := hSw; clear hSb; (try dsimp only at hSa); go_simp; try with_reducible rfl)
    (try simp only [Act.put, List.setIfInBounds_toArray, List.set_cons_zero, List.set_cons_succ])
    refine wpAnyN_step (i := 7) (by kernel_rfl) rfl (by kernel_rfl) ?_
    intro K' hK
    (try simp only [Act.put, List.setIfInBounds_toArray, List.set_cons_zero, List.set_cons_succ])
    obtain ⟨wq1, J, hwJ, hJ, hJl, hb1, hjb⟩ := box_any w7.drew #[.int .i64 t] 3
    go_simp
    refine hK.out _ _ ((hb1.cell (p := ⟨N, 3, none⟩) lN).trans n3) (fun _ _ => (hb1.cell (p := ⟨g, ki * 2 + 1, none⟩) lg).trans t0) ?_
    clear hK K'
    (try simp only [Act.put, List.setIfInBounds_toArray, List.set_cons_zero, List.set_cons_succ])
    clear hwJ
    refine wpAnyN_step (i := 8) (by kernel_rfl) rfl (by kernel_rfl) ?_
    intro K' hK
    (try simp only [Act.put, List.setIfInBounds_toArray, List.set_cons_zero, List.set_cons_succ])
    go_simp
    have hjt : IntsAt wq1 (.slice (some ⟨J, 0, none⟩) 1 1) [t] := RowAt.ints (show RowAt wq1 J [t] from hjb) (by show 1 ≤ 9223372036854775807; omega) 1
    go_at_call 52; refine (of_any [t] _ wq1 hjt).mono ?_; rintro e wq2 ⟨rfl, rfl⟩
    rw [HKK.out]
    refine hK.out _ _ ((hb1.cell (p := ⟨N, 3, none⟩) lN).trans n3) (fun _ _ => (hb1.cell (p := ⟨g, ki * 2 + 1, none⟩) lg).trans t0) ?_
    clear hK K'
    (try simp only [Act.put, List.setIfInBounds_toArray, List.set_cons_zero, List.set_cons_succ])
    have z0 : wq1.cell? ⟨g, ki * 2 + 1, none⟩ = some (.int .u64 T0) := (hb1.cell (p := ⟨g, ki * 2 + 1, none⟩) lg).trans t0
    have z1 : wq1.frozen? ⟨g, ki * 2 + 1, none⟩ = false := hfz5 _ ((Below.refl _ _).drew.trans hb1)
    refine wpAnyN_take false (i := 9) (oi := ⟨some 44, _, _, _, _, _⟩) (v := ?_) rfl (by kernel_rfl) (by kernel_rfl) (by kernel_rfl) (fun _ _ _ h => h) (Or.inl ⟨by kernel_rfl, ?_⟩) ⟨(hb1.cell (p := ⟨N, 3, none⟩) lN).trans n3, fun h => (by cases h)⟩ ?_
    rotate_left
    · (intro w hSw; obtain ⟨hSa, hSb⟩ := hSw; clear hSb; (try dsimp only at hSa); go_simp; try with_reducible rfl)
    (try simp only [Act.put, List.setIfInBounds_toArray, List.set_cons_zero, List.set_cons_succ])
    refine wpAnyN_take false (i := 10) (oi := ⟨some 45, _, _, _, _, _⟩) (v := ?_) rfl (by kernel_rfl) (by kernel_rfl) (by kernel_rfl) (fun _ _ _ h => h) (Or.inl ⟨by kernel_rfl, ?_⟩) ⟨(hb1.cell (p := ⟨N, 3, none⟩) lN).trans n3, fun h => (by cases h)⟩ ?_
    rotate_left
    · (intro w hSw; obtain ⟨hSa, hSb⟩ := hSw; clear hSb; (try dsimp only at hSa); go_simp; try with_reducible rfl)
    (try simp only [Act.put, List.setIfInBounds_toArray, List.set_cons_zero, List.set_cons_succ])
    refine wpAnyN_take false (i := 11) (oi := ⟨some 46, _, _, _, _, _⟩) (v := ?_) rfl (by kernel_rfl) (by kernel_rfl) (by kernel_rfl) (fun _ _ _ h => h) (Or.inl ⟨by kernel_rfl, ?_⟩) ⟨(hb1.cell (p := ⟨N, 3, none⟩) lN).trans n3, fun h => (by cases h)⟩ ?_
    rotate_left
    · (intro w hSw; obtain ⟨hSa, hSb⟩ := hSw; clear hSb; (try dsimp only at hSa); go_simp; try with_reducible rfl)
    (try simp only [Act.put, List.setIfInBounds_toArray, List.set_cons_zero, List.set_cons_succ])
    refine wpAnyN_step (i := 12) (by kernel_rfl) rfl (by kernel_rfl) ?_
    intro K' hK
    (try simp only [Act.put, List.setIfInBounds_toArray, List.set_cons_zero, List.set_cons_succ])
    go_simp
    refine hK.out _ _ ((cell_set_ne (p := ⟨g, ki * 2 + 1, none⟩) (q := ⟨N, 3, none⟩) hNg).trans ((hb1.cell (p := ⟨N, 3, none⟩) lN).trans n3)) (fun h => by cases h) ?_
    clear hK K'
    (try simp only [Act.put, List.setIfInBounds_toArray, List.set_cons_zero, List.set_cons_succ])
    refine wpAnyN_done (by kernel_rfl) ?_
    have hkq : Below w7.heap.size w7 wq1 := (Below.refl _ _).drew.trans hb1
    obtain ⟨wS, hwS⟩ : ∃ wS, wq1.setCell ⟨g, ki * 2 + 1, none⟩ (.int .u64 (kk : Int)) = wS := ⟨_, rfl⟩
    rw [hwS]
    have lgq := Nat.lt_of_lt_of_le lg hkq.size
    have HAS : Hid (Apart (fun b => (Value.slice A ki cap0).ownBlock = some b) w wS) := Lib.hid (by
      rw [← hwS]
      exact (HAP.out.trans (Apart.of_below (F := fun _ => False) hkq) fun _ _ h => h.elim).set (p := ⟨g, ki * 2 + 1, none⟩) HGA.out _)
    have HNS : Hid (wS.heap[N]? = some (.cells #[.int .i64 xu, .int .i64 xs, .int .i64 xc, .slice (some ⟨g, 0, none⟩) np1 cap] 56 (0, 0))) := Lib.hid (by
      rw [← hwS]
      exact (Below.heap_setCell _ _ _ _ hNg).trans (keep_block HNX.out hkq))
    have HRS : Hid (wS.heap[R]? = some (.cells #[.int .i64 0, .int .i64 0, .int .i64 0, .slice none 0 0] 56 (0, 0))) := Lib.hid (by
      rw [← hwS]
      exact (Below.heap_setCell _ _ _ _ hRg).trans (keep_block HRX.out hkq))
    have HOS : Hid (wS.ownsRow base 61 2 (.slice (some ⟨g, 0, none⟩) np1 cap) np1 (pcsCells qs ++ [.int .i64 c, .int .u64 (kk : Int)])) := Lib.hid (by
      have h := own_set (own_below5 HOWN.out hkq) (k := ki * 2 + 1) (.int .u64 (kk : Int))
      rw [← HKI.out, pcs_set_last, HKI.out] at h
      rw [← hwS]
      exact h)
    have HN1 : Hid ((wS.setCell ⟨N, 0, none⟩ (.int .i64 u)).heap[N]? = some (.cells #[.int .i64 u, .int .i64 xs, .int .i64 xc, .slice (some ⟨g, 0, none⟩) np1 cap] 56 (0, 0))) := heap_setCell_mem _ _ _ _ _ _ _ HNS.out
    have HN2 : Hid (((wS.setCell ⟨N, 0, none⟩ (.int .i64 u)).setCell ⟨N, 1, none⟩ (.int .i64 (xs + 1))).heap[N]? = some (.cells #[.int .i64 u, .int .i64 (xs + 1), .int .i64 xc, .slice (some ⟨g, 0, none⟩) np1 cap] 56 (0, 0))) := heap_setCell_mem _ _ _ _ _ _ _ HN1.out
    have hlt := HLT.out
    have HR2 : Hid (((wS.setCell ⟨N, 0, none⟩ (.int .i64 u)).setCell ⟨N, 1, none⟩ (.int .i64 (xs + 1))).heap[R]? = some (.cells #[.int .i64 0, .int .i64 0, .int .i64 0, .slice none 0 0] 56 (0, 0))) := Lib.hid ((Below.heap_setCell _ _ _ _ (show R ≠ N by omega)).trans ((Below.heap_setCell _ _ _ _ (show R ≠ N by omega)).trans HRS.out))
    clear n0 n1 n2 n3 t0 z0 z1 hfz5 hjt hjb hbits hb1 hkq lgq hwS
    obtain ⟨n0, n1, n2, n3⟩ := four_heads HNS.out
    obtain ⟨m0, m1, m2, m3⟩ := four_heads HN1.out
    obtain ⟨k0, k1, k2, k3⟩ := four_heads HN2.out
    have fr6 : wS.frozen? ⟨N, 0, none⟩ = false := by have e := HNS.out; simp [World.frozen?, e]
    have fr7 : (wS.setCell ⟨N, 0, none⟩ (.int .i64 u)).frozen? ⟨N, 1, none⟩ = false := by have e := HN1.out; simp [World.frozen?, e]
    go_wp2_with (refine wpList_store_row rfl _ _ _ rfl R #[.int .i64 u, .int .i64 (xs + 1), .int .i64 xc, .slice (some ⟨g, 0, none⟩) np1 cap] rfl rfl 56 _ HR2.out (Try.sizePl _ _ _ _) rfl (one4 _ _ _ _ _ _) ?_)
    refine bodyPost_ret (v := plA (.slice (some ⟨g, 0, none⟩) np1 cap) ⟨u, xs + 1, xc, qs ++ [(⟨c, kk⟩ : Pc)]⟩) (results_cell_row rfl _ _ R _ _ _ _ rfl (setRow_heap _ _ _ _ _ _ HR2.out) Try.underlying56 rfl (Try.sizePl _ _ _ _)) rfl ?_
    refine ⟨_, rfl, ?_, ?_, ?_⟩
    · obtain ⟨w1', w2'⟩ := HWP.out
      show World.ownsRow _ base 61 2 _ (qs ++ [(⟨c, kk⟩ : Pc)]).length (pcsCells (qs ++ [(⟨c, kk⟩ : Pc)]))
      rw [w1', w2']
      refine own_keep HOS.out fun k hk => ?_
      cases hk
      exact (setRow_other _ _ _ _ (Ne.symm hRg)).trans ((Below.heap_setCell _ _ _ _ (Ne.symm hNg)).trans (Below.heap_setCell _ _ _ _ (Ne.symm hNg)))
    · refine ((HAS.out.set (p := ⟨N, 0, none⟩) (.inr hlt.1) _).set (p := ⟨N, 1, none⟩) (.inr hlt.1) _).trans (F' := fun k => k = R) ⟨rfl, rfl, rfl, by simp [World.setRow, World.setCell], fun k _ hn => setRow_other _ _ _ _ hn⟩ fun k hk e => ?_
      omega
    · rcases HGA.out with h | h
      · exact .inl ⟨g, h, rfl⟩
      · exact .inr ⟨g, rfl, h⟩
  · have HTZ : Hid ((T0 : Int) = 0) := Lib.hid (by omega)
    have hqs : qs = q0 ++ [y] := by rw [hq]; simp
    have hyc : y.c ≠ c := hno y (by rw [hqs]; simp)
    obtain ⟨k0, hk0'⟩ : ∃ k0, q0.length = k0 := ⟨_, rfl⟩
    have hkk0 : ki = k0 + 1 := by rw [← hki, hqs, List.length_append, hk0']; rfl
    obtain ⟨g0, capg, hA, _, hg0l, _, _, _, hat0, _⟩ := ownP_lies HO.out (by omega)
    injection hA with hA hA1 hA2
    subst hA
    have c0 := hat0 (k0 * 2) (.int .i64 y.c) (by
      rw [hqs, show q0 ++ [y] = q0 ++ [⟨y.c, y.t⟩] from rfl, pcs_snoc_cells, ← hk0', List.getElem?_append_right (by rw [pcsCells_length]; omega), pcsCells_length, Nat.sub_self]; rfl)
    obtain rfl : lz = (k0 : Int) := by omega
    have hlz : ¬ (k0 : Int) < 0 := by omega
    have hlz2 : decide ((k0 : Int) < 0) = false := decide_eq_false hlz
    have hkz0 : (k0 : Int) < (ki : Int) := by omega
    have hk00 : (0 : Int) ≤ (k0 : Int) := by omega
    have hyc1 : (y.c != c) = true := by simpa using hyc
    clear hk hnb hrb hb1 hb2 hkk hki hb hT0 hyc hkk0 hk0' hat0 hA1 hA2 hqs hq
    unfold plA
    go_enter Try.func74, Try.ntmps74
    go_wp2_with (at_builtin; refine wpList_append_own_at _ rfl _ _ 54 rfl base 61 i0 (.agg #[.int .i64 0, .int .u64 0]) 2 16 Try.underlying54 hi hz0 hz1 hz2 rfl (by decide) _ _ _ rfl (HO.out.alloc _) ⟨w2.heap.size, 0, none⟩ 1 1 [.int .i64 c, .int .u64 0] rfl rfl ?c1 ?c2 ?c3 ?c4 ?c5 ?_)
    try (case c1 => exact World.news_of_block (heap_alloc_new _ _))
    try (case c2 => first | exact ⟨rfl, rfl⟩ | (intro q hq; simp at hq; rcases hq with rfl | rfl <;> rfl))
    try (case c3 => unfold maxLen; omega)
    try (case c4 => omega)
    try (case c5 => first | omega | (simp; omega))
    intro v6 w6 hown6 hgrow _ hat
    obtain ⟨np1, hnp1⟩ : ∃ np1, ki + 1 = np1 := ⟨_, rfl⟩
    have HNK := Lib.hid (show np1 = ki + 1 from hnp1.symm)
    rw [hnp1] at hown6
    obtain ⟨g, cap, rfl, hbg, hgl, hnc, hcap, _, _, _⟩ := ownP_lies hown6 (by omega)
    have hba := (Below.refl w2.heap.size w2).alloc (Nat.le_refl _) (.cells #[.int .i64 c, .int .u64 0] 61)
    have hlt := HLT.out
    have hNo : ∀ b, (Value.slice (some ⟨g0, 0, none⟩) ki cap0).ownBlock = some b → b ≠ N ∧ b ≠ R := fun b hb => by have := HOL.out b hb; omega
    have HGA : Hid ((Value.slice (some ⟨g0, 0, none⟩) ki cap0).ownBlock = some g ∨ w.heap.size ≤ g) := Lib.hid (by
      rcases hat with hat | hat
      · exact .inl hat.symm
      · right
        have e := Option.some.inj hat
        simp at e
        omega)
    have hNg : N ≠ g := by
      rcases hat with hat | hat
      · exact fun e => (hNo g hat.symm).1 e.symm
      · have e := Option.some.inj hat
        simp at e
        omega
    have hRg : R ≠ g := by
      rcases hat with hat | hat
      · exact fun e => (hNo g hat.symm).2 e.symm
      · have e := Option.some.inj hat
        simp at e
        omega
    have HN6 : Hid (w6.heap[N]? = some (.cells #[.int .i64 xu, .int .i64 xs, .int .i64 xc, .slice (some ⟨g0, 0, none⟩) ki cap0] 56 (0, 0))) := Lib.hid ((hgrow.block N (by simp; omega) (fun e => (hNo N e.symm).1 rfl)).trans (keep_block HN0.out hba))
    have HR6 : Hid (w6.heap[R]? = some (.cells #[.int .i64 0, .int .i64 0, .int .i64 0, .slice none 0 0] 56 (0, 0))) := Lib.hid ((hgrow.block R (by simp; omega) (fun e => (hNo R e.symm).2 rfl)).trans (keep_block HR0.out hba))
    have HA6 : Hid (Apart (fun b => (Value.slice (some ⟨g0, 0, none⟩) ki cap0).ownBlock = some b) w w6) := Lib.hid ((Apart.of_below (F := fun b => (Value.slice (some ⟨g0, 0, none⟩) ki cap0).ownBlock = some b) (HK.out.trans (hba.mono HK.out.size))).trans (F' := fun b => (Value.slice (some ⟨g0, 0, none⟩) ki cap0).ownBlock = some b) ⟨hgrow.os, hgrow.tape, hgrow.output, hgrow.size, fun k hk hn => hgrow.block k hk fun e => hn e.symm⟩ fun _ _ h => h)
    have fr0 : w6.frozen? ⟨N, 3, none⟩ = false := by have e := HN6.out; simp [World.frozen?, e]
    obtain ⟨y0, y1, y2, y3⟩ := four_heads HN6.out
    obtain ⟨w7, hw7⟩ : ∃ w7, w6.setCell ⟨N, 3, none⟩ (.slice (some ⟨g, 0, none⟩) np1 cap) = w7 := ⟨_, rfl⟩
    have HNX : Hid (w7.heap[N]? = some (.cells #[.int .i64 xu, .int .i64 xs, .int .i64 xc, .slice (some ⟨g, 0, none⟩) np1 cap] 56 (0, 0))) := Lib.hid (by rw [← hw7]; exact heap_setCell_mem _ _ _ _ _ _ _ HN6.out)
    have HRX : Hid (w7.heap[R]? = some (.cells #[.int .i64 0, .int .i64 0, .int .i64 0, .slice none 0 0] 56 (0, 0))) := Lib.hid (by rw [← hw7]; exact (Below.heap_setCell _ _ _ _ (show R ≠ N by omega)).trans HR6.out)
    have HOWN : Hid (w7.ownsRow base 61 2 (.slice (some ⟨g, 0, none⟩) np1 cap) np1 (pcsCells qs ++ [.int .i64 c, .int .u64 (T0 : Int)])) := Lib.hid (by
      rw [← hw7, HTZ.out]
      exact own_keep hown6 fun k hk => (by cases hk; exact Below.heap_setCell _ _ _ _ (Ne.symm hNg)))
    have HAP : Hid (Apart (fun b => (Value.slice (some ⟨g0, 0, none⟩) ki cap0).ownBlock = some b) w w7) := Lib.hid (by rw [← hw7]; exact HA6.out.set (p := ⟨N, 3, none⟩) (.inr hlt.1) _)
    have HWP : Hid (pcsCells (qs ++ [(⟨c, kk⟩ : Pc)]) = pcsCells qs ++ [.int .i64 c, .int .u64 (kk : Int)] ∧ (qs ++ [(⟨c, kk⟩ : Pc)]).length = np1) := Lib.hid (by
      rw [pcs_snoc_cells]
      exact ⟨rfl, by rw [List.length_append, HKI.out, HNK.out]; rfl⟩)
    have hk0 : (0 : Int) ≤ (ki : Int) := by omega
    obtain ⟨z0', z1', z2', z3'⟩ := four_heads HNX.out
    clear hown6 hgrow hat hba hNo n0 n1 n2 n3 hw1 hw2 hN hR hnp1 hlt
    go_wp2_with fail
    clear y0 y1 y2 y3 z0' z1' z2' z3'
    have hki := HKI.out
    have hnk := HNK.out
    have hq0 : (0 : Int) ≤ (ki : Int) := by omega
    have hqz : (ki : Int) < (np1 : Int) := by omega
    obtain ⟨n0, n1, n2, n3⟩ := four_heads HNX.out
    have lN := heap_lt HNX.out
    obtain ⟨g', cap', hA', _, lg, _, _, _, hat, hfr⟩ := ownP_lies HOWN.out (by omega)
    injection hA' with hA' hA1 hA2; clear hA1 hA2
    injection hA' with hA'
    injection hA' with hA'
    subst hA'
    have t0 : w7.cell? ⟨g, ki * 2 + 1, none⟩ = some (.int .u64 T0) := hat _ _ (by rw [← hki, List.getElem?_append_right (by rw [pcsCells_length]; omega), pcsCells_length]; rw [show qs.length * 2 + 1 - qs.length * 2 = 1 by omega]; rfl)
    have hfz5 : ∀ W, Below w7.heap.size w7 W → W.frozen? ⟨g, ki * 2 + 1, none⟩ = false := fun W hk => frozen_same (hk.block g lg) ▸ hfr _
    clear hat hfr hki hnk
    go_wp2_with fail
    refine wp_region_N (S1 := fun w' => w'.cell? ⟨N, 3, none⟩ = some (.slice (some ⟨g, 0, none⟩) np1 cap)) (S2 := fun w' => w'.cell? ⟨g, ki * 2 + 1, none⟩ = some (.int .u64 T0)) (N := fun i => i != 12) (by kernel_rfl) ?_
    change wpAnyN _ _ _ _ _ _ _ 13 (Array.replicate 13 false) _ _
    refine wpAnyN_take false (i := 0) (oi := ⟨some 35, _, _, _, _, _⟩) (v := ?_) rfl (by kernel_rfl) (by kernel_rfl) (by kernel_rfl) (fun _ _ _ h => h) (Or.inl ⟨by kernel_rfl, ?_⟩) ⟨n3, fun h => (by cases h)⟩ ?_
    rotate_left
    · (intro w hSw; obtain ⟨hSa, hSb⟩ := hSw; clear hSb; (try dsimp only at hSa); go_simp; try with_reducible rfl)
    (try simp only [Act.put, List.setIfInBounds_toArray, List.set_cons_zero, List.set_cons_succ])
    refine wpAnyN_take false (i := 1) (oi := ⟨some 36, _, _, _, _, _⟩) (v := ?_) rfl (by kernel_rfl) (by kernel_rfl) (by kernel_rfl) (fun _ _ _ h => h) (Or.inl ⟨by kernel_rfl, ?_⟩) ⟨n3, fun h => (by cases h)⟩ ?_
    rotate_left
    · (intro w hSw; obtain ⟨hSa, hSb⟩ := hSw; clear hSb; (try dsimp only at hSa); go_simp; try with_reducible rfl)
    (try simp only [Act.put, List.setIfInBounds_toArray, List.set_cons_zero, List.set_cons_succ])
    refine wpAnyN_take false (i := 2) (oi := ⟨some 37, _, _, _, _, _⟩) (v := ?_) rfl (by kernel_rfl) (by kernel_rfl) (by kernel_rfl) (fun _ _ _ h => h) (Or.inl ⟨by kernel_rfl, ?_⟩) ⟨n3, fun h => (by cases h)⟩ ?_
    rotate_left
    · (intro w hSw; obtain ⟨hSa, hSb⟩ := hSw; clear hSb; (try dsimp only at hSa); go_simp; try with_reducible rfl)
    (try simp only [Act.put, List.setIfInBounds_toArray, List.set_cons_zero, List.set_cons_succ])
    refine wpAnyN_take false (i := 3) (oi := ⟨some 38, _, _, _, _, _⟩) (v := ?_) rfl (by kernel_rfl) (by kernel_rfl) (by kernel_rfl) (fun _ _ _ h => h) (Or.inl ⟨by kernel_rfl, ?_⟩) ⟨n3, fun h => (by cases h)⟩ ?_
    rotate_left
    · (intro w hSw; obtain ⟨hSa, hSb⟩ := hSw; clear hSb; (try dsimp only at hSa); go_simp; try with_reducible rfl)
    (try simp only [Act.put, List.setIfInBounds_toArray, List.set_cons_zero, List.set_cons_succ])
    refine wpAnyN_take false (i := 4) (oi := ⟨some 39, _, _, _, _, _⟩) (v := ?_) rfl (by kernel_rfl) (by kernel_rfl) (by kernel_rfl) (fun _ _ _ h => h) (Or.inl ⟨by kernel_rfl, ?_⟩) ⟨n3, fun h => (by cases h)⟩ ?_
    rotate_left
    · (intro w hSw; obtain ⟨hSa, hSb⟩ := hSw; clear hSb; (try dsimp only at hSa); go_simp; try with_reducible rfl)
    (try simp only [Act.put, List.setIfInBounds_toArray, List.set_cons_zero, List.set_cons_succ])
    refine wpAnyN_take true (i := 5) (oi := ⟨some 40, _, _, _, _, _⟩) (v := ?_) rfl (by kernel_rfl) (by kernel_rfl) (by kernel_rfl) (fun _ _ _ h => h) (Or.inl ⟨by kernel_rfl, ?_⟩) ⟨n3, fun _ => t0⟩ ?_
    rotate_left
    · (intro w hSw; obtain ⟨hSa, hSb⟩ := hSw; have hSc := hSb rfl; clear hSb; (try dsimp only at hSa hSc); go_simp; try with_reducible rfl)
    (try simp only [Act.put, List.setIfInBounds_toArray, List.set_cons_zero, List.set_cons_succ])
    refine wpAnyN_take false (i := 6) (oi := ⟨some 41, _, _, _, _, _⟩) (v := ?_) rfl (by kernel_rfl) (by kernel_rfl) (by kernel_rfl) (fun _ _ _ h => h) (Or.inl ⟨by kernel_rfl, ?_⟩) ⟨n3, fun h => (by cases h)⟩ ?_
    rotate_left
    · (intro w hSw; obtain ⟨hSa, hSb⟩ := hSw; clear hSb; (try dsimp only at hSa); go_simp; try with_reducible rfl)
    (try simp only [Act.put, List.setIfInBounds_toArray, List.set_cons_zero, List.set_cons_succ])
    refine wpAnyN_step (i := 7) (by kernel_rfl) rfl (by kernel_rfl) ?_
    intro K' hK
    (try simp only [Act.put, List.setIfInBounds_toArray, List.set_cons_zero, List.set_cons_succ])
    obtain ⟨wq1, J, hwJ, hJ, hJl, hb1, hjb⟩ := box_any w7.drew #[.int .i64 t] 3
    go_simp
    refine hK.out _ _ ((hb1.cell (p := ⟨N, 3, none⟩) lN).trans n3) (fun _ _ => (hb1.cell (p := ⟨g, ki * 2 + 1, none⟩) lg).trans t0) ?_
    clear hK K'
    (try simp only [Act.put, List.setIfInBounds_toArray, List.set_cons_zero, List.set_cons_succ])
    clear hwJ
    refine wpAnyN_step (i := 8) (by kernel_rfl) rfl (by kernel_rfl) ?_
    intro K' hK
    (try simp only [Act.put, List.setIfInBounds_toArray, List.set_cons_zero, List.set_cons_succ])
    go_simp
    have hjt : IntsAt wq1 (.slice (some ⟨J, 0, none⟩) 1 1) [t] := RowAt.ints (show RowAt wq1 J [t] from hjb) (by show 1 ≤ 9223372036854775807; omega) 1
    go_at_call 52; refine (of_any [t] _ wq1 hjt).mono ?_; rintro e wq2 ⟨rfl, rfl⟩
    rw [HKK.out]
    refine hK.out _ _ ((hb1.cell (p := ⟨N, 3, none⟩) lN).trans n3) (fun _ _ => (hb1.cell (p := ⟨g, ki * 2 + 1, none⟩) lg).trans t0) ?_
    clear hK K'
    (try simp only [Act.put, List.setIfInBounds_toArray, List.set_cons_zero, List.set_cons_succ])
    have z0 : wq1.cell? ⟨g, ki * 2 + 1, none⟩ = some (.int .u64 T0) := (hb1.cell (p := ⟨g, ki * 2 + 1, none⟩) lg).trans t0
    have z1 : wq1.frozen? ⟨g, ki * 2 + 1, none⟩ = false := hfz5 _ ((Below.refl _ _).drew.trans hb1)
    refine wpAnyN_take false (i := 9) (oi := ⟨some 44, _, _, _, _, _⟩) (v := ?_) rfl (by kernel_rfl) (by kernel_rfl) (by kernel_rfl) (fun _ _ _ h => h) (Or.inl ⟨by kernel_rfl, ?_⟩) ⟨(hb1.cell (p := ⟨N, 3, none⟩) lN).trans n3, fun h => (by cases h)⟩ ?_
    rotate_left
    · (intro w hSw; obtain ⟨hSa, hSb⟩ := hSw; clear hSb; (try dsimp only at hSa); go_simp; try with_reducible rfl)
    (try simp only [Act.put, List.setIfInBounds_toArray, List.set_cons_zero, List.set_cons_succ])
    refine wpAnyN_take false (i := 10) (oi := ⟨some 45, _, _, _, _, _⟩) (v := ?_) rfl (by kernel_rfl) (by kernel_rfl) (by kernel_rfl) (fun _ _ _ h => h) (Or.inl ⟨by kernel_rfl, ?_⟩) ⟨(hb1.cell (p := ⟨N, 3, none⟩) lN).trans n3, fun h => (by cases h)⟩ ?_
    rotate_left
    · (intro w hSw; obtain ⟨hSa, hSb⟩ := hSw; clear hSb; (try dsimp only at hSa); go_simp; try with_reducible rfl)
    (try simp only [Act.put, List.setIfInBounds_toArray, List.set_cons_zero, List.set_cons_succ])
    refine wpAnyN_take false (i := 11) (oi := ⟨some 46, _, _, _, _, _⟩) (v := ?_) rfl (by kernel_rfl) (by kernel_rfl) (by kernel_rfl) (fun _ _ _ h => h) (Or.inl ⟨by kernel_rfl, ?_⟩) ⟨(hb1.cell (p := ⟨N, 3, none⟩) lN).trans n3, fun h => (by cases h)⟩ ?_
    rotate_left
    · (intro w hSw; obtain ⟨hSa, hSb⟩ := hSw; clear hSb; (try dsimp only at hSa); go_simp; try with_reducible rfl)
    (try simp only [Act.put, List.setIfInBounds_toArray, List.set_cons_zero, List.set_cons_succ])
    refine wpAnyN_step (i := 12) (by kernel_rfl) rfl (by kernel_rfl) ?_
    intro K' hK
    (try simp only [Act.put, List.setIfInBounds_toArray, List.set_cons_zero, List.set_cons_succ])
    go_simp
    refine hK.out _ _ ((cell_set_ne (p := ⟨g, ki * 2 + 1, none⟩) (q := ⟨N, 3, none⟩) hNg).trans ((hb1.cell (p := ⟨N, 3, none⟩) lN).trans n3)) (fun h => by cases h) ?_
    clear hK K'
    (try simp only [Act.put, List.setIfInBounds_toArray, List.set_cons_zero, List.set_cons_succ])
    refine wpAnyN_done (by kernel_rfl) ?_
    have hkq : Below w7.heap.size w7 wq1 := (Below.refl _ _).drew.trans hb1
    obtain ⟨wS, hwS⟩ : ∃ wS, wq1.setCell ⟨g, ki * 2 + 1, none⟩ (.int .u64 (kk : Int)) = wS := ⟨_, rfl⟩
    rw [hwS]
    have lgq := Nat.lt_of_lt_of_le lg hkq.size
    have HAS : Hid (Apart (fun b => (Value.slice (some ⟨g0, 0, none⟩) ki cap0).ownBlock = some b) w wS) := Lib.hid (by
      rw [← hwS]
      exact (HAP.out.trans (Apart.of_below (F := fun _ => False) hkq) fun _ _ h => h.elim).set (p := ⟨g, ki * 2 + 1, none⟩) HGA.out _)
    have HNS : Hid (wS.heap[N]? = some (.cells #[.int .i64 xu, .int .i64 xs, .int .i64 xc, .slice (some ⟨g, 0, none⟩) np1 cap] 56 (0, 0))) := Lib.hid (by
      rw [← hwS]
      exact (Below.heap_setCell _ _ _ _ hNg).trans (keep_block HNX.out hkq))
    have HRS : Hid (wS.heap[R]? = some (.cells #[.int .i64 0, .int .i64 0, .int .i64 0, .slice none 0 0] 56 (0, 0))) := Lib.hid (by
      rw [← hwS]
      exact (Below.heap_setCell _ _ _ _ hRg).trans (keep_block HRX.out hkq))
    have HOS : Hid (wS.ownsRow base 61 2 (.slice (some ⟨g, 0, none⟩) np1 cap) np1 (pcsCells qs ++ [.int .i64 c, .int .u64 (kk : Int)])) := Lib.hid (by
      have h := own_set (own_below5 HOWN.out hkq) (k := ki * 2 + 1) (.int .u64 (kk : Int))
      rw [← HKI.out, pcs_set_last, HKI.out] at h
      rw [← hwS]
      exact h)
    have HN1 : Hid ((wS.setCell ⟨N, 0, none⟩ (.int .i64 u)).heap[N]? = some (.cells #[.int .i64 u, .int .i64 xs, .int .i64 xc, .slice (some ⟨g, 0, none⟩) np1 cap] 56 (0, 0))) := heap_setCell_mem _ _ _ _ _ _ _ HNS.out
    have HN2 : Hid (((wS.setCell ⟨N, 0, none⟩ (.int .i64 u)).setCell ⟨N, 1, none⟩ (.int .i64 (xs + 1))).heap[N]? = some (.cells #[.int .i64 u, .int .i64 (xs + 1), .int .i64 xc, .slice (some ⟨g, 0, none⟩) np1 cap] 56 (0, 0))) := heap_setCell_mem _ _ _ _ _ _ _ HN1.out
    have hlt := HLT.out
    have HR2 : Hid (((wS.setCell ⟨N, 0, none⟩ (.int .i64 u)).setCell ⟨N, 1, none⟩ (.int .i64 (xs + 1))).heap[R]? = some (.cells #[.int .i64 0, .int .i64 0, .int .i64 0, .slice none 0 0] 56 (0, 0))) := Lib.hid ((Below.heap_setCell _ _ _ _ (show R ≠ N by omega)).trans ((Below.heap_setCell _ _ _ _ (show R ≠ N by omega)).trans HRS.out))
    clear n0 n1 n2 n3 t0 z0 z1 hfz5 hjt hjb hbits hb1 hkq lgq hwS
    obtain ⟨n0, n1, n2, n3⟩ := four_heads HNS.out
    obtain ⟨m0, m1, m2, m3⟩ := four_heads HN1.out
    obtain ⟨k0, k1, k2, k3⟩ := four_heads HN2.out
    have fr6 : wS.frozen? ⟨N, 0, none⟩ = false := by have e := HNS.out; simp [World.frozen?, e]
    have fr7 : (wS.setCell ⟨N, 0, none⟩ (.int .i64 u)).frozen? ⟨N, 1, none⟩ = false := by have e := HN1.out; simp [World.frozen?, e]
    go_wp2_with (refine wpList_store_row rfl _ _ _ rfl R #[.int .i64 u, .int .i64 (xs + 1), .int .i64 xc, .slice (some ⟨g, 0, none⟩) np1 cap] rfl rfl 56 _ HR2.out (Try.sizePl _ _ _ _) rfl (one4 _ _ _ _ _ _) ?_)
    refine bodyPost_ret (v := plA (.slice (some ⟨g, 0, none⟩) np1 cap) ⟨u, xs + 1, xc, qs ++ [(⟨c, kk⟩ : Pc)]⟩) (results_cell_row rfl _ _ R _ _ _ _ rfl (setRow_heap _ _ _ _ _ _ HR2.out) Try.underlying56 rfl (Try.sizePl _ _ _ _)) rfl ?_
    refine ⟨_, rfl, ?_, ?_, ?_⟩
    · obtain ⟨w1', w2'⟩ := HWP.out
      show World.ownsRow _ base 61 2 _ (qs ++ [(⟨c, kk⟩ : Pc)]).length (pcsCells (qs ++ [(⟨c, kk⟩ : Pc)]))
      rw [w1', w2']
      refine own_keep HOS.out fun k hk => ?_
      cases hk
      exact (setRow_other _ _ _ _ (Ne.symm hRg)).trans ((Below.heap_setCell _ _ _ _ (Ne.symm hNg)).trans (Below.heap_setCell _ _ _ _ (Ne.symm hNg)))
    · refine ((HAS.out.set (p := ⟨N, 0, none⟩) (.inr hlt.1) _).set (p := ⟨N, 1, none⟩) (.inr hlt.1) _).trans (F' := fun k => k = R) ⟨rfl, rfl, rfl, by simp [World.setRow, World.setCell], fun k _ hn => setRow_other _ _ _ _ hn⟩ fun k hk e => ?_
      omega
    · rcases HGA.out with h | h
      · exact .inl ⟨g, h, rfl⟩
      · exact .inr ⟨g, rfl, h⟩

theorem widen_any (base : Nat) (v : Value) (x : Pl) (u c t : Int) (w : World) (h : w.ownsRow base 61 2 v x.ps.length (pcsCells x.ps)) (hl : x.ps.length ≤ 1000) (hs : 0 ≤ x.s) (hs2 : x.s ≤ 2000000) (hb : base ≤ w.heap.size) (hT : ∀ y ∈ x.ps, y.t < 18446744073709551616) :
    Calls Try.prog 74 #[plA v x, .int .i64 u, .int .i64 c, .int .i64 t] w (RetWid base v (widT x u c (ofI [t])) w) := by
  have key : ∀ qs : List Pc, x.ps = qs → Calls Try.prog 74 #[plA v x, .int .i64 u, .int .i64 c, .int .i64 t] w (RetWid base v (widT x u c (ofI [t])) w) := fun qs hq => by
    rcases qs.eq_nil_or_concat with e | ⟨q0, y, e⟩
    · have hp : x.ps = [] := hq.trans e
      have h1 := widen_grow base v x c u t (fun y hy => by rw [hp] at hy; cases hy) w h hl hs hs2 hb
      have e1 : widT x u c (ofI [t]) = ⟨u, x.s + 1, x.c, x.ps ++ [⟨c, ofI [t]⟩]⟩ := by
        unfold widT
        rw [hp, widP_nil]
        rfl
      rw [e1]
      exact h1
    · have hp : x.ps = q0 ++ [y] := hq.trans (by rw [e]; simp)
      by_cases hc : y.c = c
      · subst hc
        exact widen_same base v x q0 y hp u t w h hl hs hs2 (hT y (by rw [hp]; simp))
      · have h1 := widen_grow base v x c u t (fun z hz => by rw [hp, List.getLast?_concat] at hz; cases hz; exact hc) w h hl hs hs2 hb
        have e1 : widT x u c (ofI [t]) = ⟨u, x.s + 1, x.c, x.ps ++ [⟨c, ofI [t]⟩]⟩ := by
          unfold widT
          rw [hp, widP_more q0 y hc]
        rw [e1]
        exact h1
  exact key _ rfl
end Go.Proofs.Ytpjmdnhoiobedaa

/-
  The places that have windows, as tables tell them: who is there, and what each has.
  Conditions: none.
-/
set_option linter.unusedVariables false
namespace Go.Proofs.Ytpjmdnhoiobedaa
open Go.RowKit Go.Maps

/-- The units so far, and the place of each. -/
abbrev Spl := List Int × (Int → Pl)
def zeroP : Pl := ⟨0, 0, 0, []⟩
def stepS (c t : Int) (S : Spl) (u : Int) : Spl := (if u ∈ S.1 then S.1 else S.1 ++ [u], fun q => if q = u then widT (S.2 u) u c (ofI [t]) else S.2 q)
def tickS (c : Int) (t : Nat) (S : Spl) (u : Int) : Spl := if u = 0 then S else stepS c (t : Int) S u
def rowSp (c : Int) : Nat → List Int → Spl → Spl
  | _, [], S => S
  | t, u :: r, S => rowSp c (t + 1) r (tickS c t S u)
def splS (l : List Tb) (S : Spl) : Spl := l.foldl (fun S x => rowSp x.c 0 x.ts S) S
def splT (l : List Tb) : Spl := splS l ([], fun _ => zeroP)
theorem rowSp_snoc (c : Int) (u : Int) : ∀ (t : Nat) (l : List Int) (S : Spl), rowSp c t (l ++ [u]) S = tickS c (t + l.length) (rowSp c t l S) u
  | t, [], S => rfl
  | t, x :: l, S => by
    rw [List.cons_append, rowSp, rowSp_snoc c u (t + 1) l, rowSp, List.length_cons, show t + 1 + l.length = t + (l.length + 1) by omega]
theorem rowSp_take {l : List Int} {k : Nat} {u : Int} (h : l[k]? = some u) (c : Int) (S : Spl) : rowSp c 0 (l.take (k + 1)) S = tickS c k (rowSp c 0 (l.take k) S) u := by
  have hk := (List.getElem?_eq_some_iff.1 h).1
  rw [List.take_add_one, h, Option.toList_some, rowSp_snoc, List.length_take, Nat.min_eq_left (by omega), Nat.zero_add]
theorem splS_snoc (l : List Tb) (x : Tb) (S : Spl) : splS (l ++ [x]) S = rowSp x.c 0 x.ts (splS l S) := by simp [splS, List.foldl_append]
theorem splT_take {l : List Tb} {k : Nat} {x : Tb} (h : l[k]? = some x) : splT (l.take (k + 1)) = rowSp x.c 0 x.ts (splT (l.take k)) := by
  unfold splT
  rw [List.take_add_one, h, Option.toList_some, splS_snoc]

/-- What each place is at most, in the i-th table, of core c, behind n ticks. -/
structure PlB (i n : Nat) (c : Int) (x : Pl) : Prop where
  len : x.ps.length ≤ i ∨ (x.ps.length ≤ i + 1 ∧ ∃ y, x.ps.getLast? = some y ∧ y.c = c)
  s0 : 0 ≤ x.s
  s1 : x.s ≤ (n : Int)
  c0 : x.c = 0
  t : ∀ y ∈ x.ps, y.t < 18446744073709551616
theorem widP_mem {ps : List Pc} {c : Int} {k : Nat} {y : Pc} (h : y ∈ widP ps c k) : y ∈ ps ∨ y.t = k ∨ ∃ z ∈ ps, y.t = z.t ||| k := by
  rcases ps.eq_nil_or_concat with e | ⟨qs, z, e⟩
  · subst e
    rw [widP_nil] at h
    rw [List.mem_singleton.1 h]
    exact .inr (.inl rfl)
  · have e' : ps = qs ++ [z] := by rw [e]; simp
    subst e'
    by_cases hc : z.c = c
    · subst hc
      rw [widP_same] at h
      rcases List.mem_append.1 h with h | h
      · exact .inl (by simp [h])
      · rw [List.mem_singleton.1 h]
        exact .inr (.inr ⟨z, by simp, rfl⟩)
    · rw [widP_more qs z hc] at h
      rcases List.mem_append.1 h with h | h
      · exact .inl h
      · rw [List.mem_singleton.1 h]
        exact .inr (.inl rfl)
theorem or_lt64 {a b : Nat} (ha : a < 18446744073709551616) (hb : b < 18446744073709551616) : a ||| b < 18446744073709551616 := Nat.or_lt_two_pow (n := 64) ha hb
theorem PlB.wid {i n : Nat} {c : Int} {x : Pl} (h : PlB i n c x) (u t : Int) : PlB i (n + 1) c (widT x u c (ofI [t])) := by
  refine ⟨?_, ?_, ?_, h.c0, ?_⟩
  · show (widP x.ps c (ofI [t])).length ≤ i ∨ ((widP x.ps c (ofI [t])).length ≤ i + 1 ∧ ∃ y, (widP x.ps c (ofI [t])).getLast? = some y ∧ y.c = c)
    rcases x.ps.eq_nil_or_concat with e | ⟨qs, z, e⟩
    · rw [e, widP_nil]
      exact .inr ⟨by simp, _, rfl, rfl⟩
    · have e' : x.ps = qs ++ [z] := by rw [e]; simp
      rw [e']
      have hl := h.len
      rw [e'] at hl
      simp only [List.length_append, List.length_singleton, List.getLast?_concat] at hl
      by_cases hc : z.c = c
      · subst hc
        rw [widP_same]
        refine .inr ⟨?_, _, List.getLast?_concat, rfl⟩
        simp only [List.length_append, List.length_singleton]
        omega
      · rw [widP_more qs z hc]
        refine .inr ⟨?_, _, List.getLast?_concat, rfl⟩
        simp only [List.length_append, List.length_singleton]
        rcases hl with hl | ⟨_, y, hy, hyc⟩
        · omega
        · cases hy; exact absurd hyc hc
  · show 0 ≤ x.s + 1
    have := h.s0; omega
  · show x.s + 1 ≤ ((n + 1 : Nat) : Int)
    have := h.s1; omega
  · intro y hy
    rcases widP_mem hy with h1 | h1 | ⟨z, hz, h1⟩
    · exact h.t y h1
    · rw [h1]; exact ofI_lt _
    · rw [h1]; exact or_lt64 (h.t z hz) (ofI_lt _)
theorem PlB.more {i n n' : Nat} {c : Int} {x : Pl} (h : PlB i n c x) (hn : n ≤ n') : PlB i n' c x := ⟨h.len, h.s0, by have := h.s1; omega, h.c0, h.t⟩
theorem PlB.next {i n : Nat} {c c' : Int} {x : Pl} (h : PlB i n c x) : PlB (i + 1) n c' x := ⟨.inl (by rcases h.len with h | h <;> omega), h.s0, h.s1, h.c0, h.t⟩
theorem PlB.zero (i n : Nat) (c : Int) : PlB i n c zeroP := ⟨.inl (Nat.zero_le _), by decide, by show (0 : Int) ≤ n; omega, rfl, fun y hy => by cases hy⟩
/-- What all places are at most; the units are those that stand in the ticks. -/
structure SplB (i n : Nat) (c : Int) (S : Spl) : Prop where
  each : ∀ q, PlB i n c (S.2 q)
  nodup : S.1.Nodup
  out : ∀ q, q ∉ S.1 → S.2 q = zeroP
  unit : ∀ q ∈ S.1, (S.2 q).u = q
  few : S.1.length ≤ n
  in64 : ∀ q ∈ S.1, Int64 q
theorem SplB.tick {i n : Nat} {c : Int} {S : Spl} (h : SplB i n c S) (t : Nat) {u : Int} (hu : Int64 u) : SplB i (n + 1) c (tickS c t S u) := by
  unfold tickS
  by_cases h0 : u = 0
  · rw [if_pos h0]
    exact ⟨fun q => (h.each q).more (by omega), h.nodup, h.out, h.unit, by have := h.few; omega, h.in64⟩
  · rw [if_neg h0]
    unfold stepS
    refine ⟨fun q => ?_, ?_, fun q hq => ?_, fun q hq => ?_, ?_, fun q hq => ?_⟩
    · show PlB i (n + 1) c (if q = u then _ else _)
      by_cases e : q = u
      · rw [if_pos e]; exact (h.each u).wid u t
      · rw [if_neg e]; exact (h.each q).more (by omega)
    · show (if u ∈ S.1 then S.1 else S.1 ++ [u]).Nodup
      by_cases e : u ∈ S.1
      · rw [if_pos e]; exact h.nodup
      · rw [if_neg e]
        rw [List.nodup_append]
        exact ⟨h.nodup, by simp, fun a ha b hb e' => by rw [List.mem_singleton.1 hb] at e'; exact e (e' ▸ ha)⟩
    · show (if q = u then _ else _) = zeroP
      have hq' : q ∉ S.1 ∧ q ≠ u := by
        show q ∉ S.1 ∧ q ≠ u
        by_cases e : u ∈ S.1
        · have hq : q ∉ (if u ∈ S.1 then S.1 else S.1 ++ [u]) := hq
          rw [if_pos e] at hq
          exact ⟨hq, fun e' => hq (e' ▸ e)⟩
        · have hq : q ∉ (if u ∈ S.1 then S.1 else S.1 ++ [u]) := hq
          rw [if_neg e] at hq
          simp at hq
          exact hq
      rw [if_neg hq'.2]
      exact h.out q hq'.1
    · show (if q = u then widT (S.2 u) u c (ofI [(t : Int)]) else S.2 q).u = q
      by_cases e : q = u
      · rw [if_pos e, e]; rfl
      · rw [if_neg e]
        have hq : q ∈ (if u ∈ S.1 then S.1 else S.1 ++ [u]) := hq
        split at hq
        · exact h.unit q hq
        · simp [e] at hq
          exact h.unit q hq
    · show (if u ∈ S.1 then S.1 else S.1 ++ [u]).length ≤ n + 1
      have := h.few
      split
      · omega
      · simp; omega
    · have hq : q ∈ (if u ∈ S.1 then S.1 else S.1 ++ [u]) := hq
      split at hq
      · exact h.in64 q hq
      · rcases List.mem_append.1 hq with hq | hq
        · exact h.in64 q hq
        · rw [List.mem_singleton.1 hq]; exact hu
theorem SplB.row {i : Nat} {c : Int} : ∀ (l : List Int) (t n : Nat) {S : Spl}, SplB i n c S → (∀ u ∈ l, Int64 u) → SplB i (n + l.length) c (rowSp c t l S)
  | [], t, n, S, h, _ => h
  | u :: l, t, n, S, h, hu => by
    have := SplB.row l (t + 1) (n + 1) (h.tick t (hu u (by simp))) (fun v hv => hu v (by simp [hv]))
    rw [List.length_cons, show n + (l.length + 1) = n + 1 + l.length by omega]
    exact this
theorem SplB.next {i n : Nat} {c c' : Int} {S : Spl} (h : SplB i n c S) : SplB (i + 1) n c' S := ⟨fun q => (h.each q).next, h.nodup, h.out, h.unit, h.few, h.in64⟩
/-- How many ticks tables have together. -/
def ticksN : List Tb → Nat
  | [] => 0
  | x :: r => x.ts.length + ticksN r
theorem ticksN_snoc (l : List Tb) (x : Tb) : ticksN (l ++ [x]) = ticksN l + x.ts.length := by
  induction l with
  | nil => simp [ticksN]
  | cons y r ih => rw [List.cons_append, ticksN, ticksN, ih]; omega
theorem ticksN_take {l : List Tb} {k : Nat} {x : Tb} (h : l[k]? = some x) : ticksN (l.take (k + 1)) = ticksN (l.take k) + x.ts.length := by
  rw [List.take_add_one, h, Option.toList_some, ticksN_snoc]
theorem ticksN_le : ∀ (l : List Tb) (k : Nat), ticksN (l.take k) ≤ ticksN l
  | [], k => by simp
  | x :: l, 0 => by simp [ticksN]
  | x :: l, k + 1 => by rw [List.take_succ_cons, ticksN, ticksN]; have := ticksN_le l k; omega
def TsOk (l : List Tb) : Prop := ∀ x ∈ l, Int64 x.c ∧ (∀ u ∈ x.ts, Int64 u) ∧ ∀ p ∈ x.ws, Int64 p.1 ∧ Int64 p.2
theorem splT_b {l : List Tb} (ho : TsOk l) (c : Int) : ∀ k, k ≤ l.length → SplB k (ticksN (l.take k)) c (splT (l.take k))
  | 0, _ => ⟨fun q => PlB.zero _ _ _, List.nodup_nil, fun _ _ => rfl, fun q hq => (by cases hq), Nat.zero_le _, fun q hq => (by cases hq)⟩
  | k + 1, hk => by
    have hx : l[k]? = some l[k] := List.getElem?_eq_getElem (by omega)
    have ih := splT_b ho l[k].c k (by omega)
    rw [splT_take hx, ticksN_take hx]
    exact (SplB.row l[k].ts 0 _ ih (ho _ (List.mem_of_getElem? hx)).2.1).next
end Go.Proofs.Ytpjmdnhoiobedaa

/-
  splits of the program: the places that have windows.
  Conditions: the slice reads as tables; they are not too many.
-/
set_option linter.unusedVariables false
set_option linter.unusedSimpArgs false
namespace Go.Proofs.Ytpjmdnhoiobedaa
open Go.RowKit Go.Maps

/-- How a place reads as an element: as it stands. -/
def elemP (v : Value) : Option (DataW Value × List MemPlace) := some (.held v, [])
def zeroPA : Value := .agg #[.int .i64 0, .int .i64 0, .int .i64 0, .slice none 0 0]
theorem zeroPlV (w : World) : (zeroValue 56).run Try.prog w = .ok zeroPA w := by kernel_rfl
/-- Block mb is a map of places, each with its pieces in a row of its own. -/
structure SplAt (W : World) (base mb cn : Nat) (V : Int → Value) (S : Spl) (D : DataW Value) : Prop where
  own : W.ownsMap Try.prog 3 elemP mb cn D
  val : ∀ q, D.atKey (.int .i64 q) (.held zeroPA) = .held (plA (V q) (S.2 q))
  has_ : ∀ q, Maps.has D (.int .i64 q) = decide (q ∈ S.1)
  row : ∀ q, W.ownsRow base 61 2 (V q) (S.2 q).ps.length (pcsCells (S.2 q).ps)
  apart : ∀ q q' b, q ≠ q' → (V q).ownBlock = some b → (V q').ownBlock ≠ some b
  out : ∀ q, q ∉ S.1 → V q = .slice none 0 0
theorem SplAt.look {W : World} {base mb cn : Nat} {V : Int → Value} {S : Spl} {D : DataW Value} (h : SplAt W base mb cn V S D) {q : Int} (hq : Int64 q) :
    (Instr.lookup 88 (.map (some mb)) (.int .i64 q) false).run Try.prog W = .ok (plA (V q) (S.2 q)) W := by
  obtain ⟨v, ps, hrun, hv⟩ := h.own.lookup keyedInt Try.underlying88 (zeroPlV W) (zd := .held zeroPA) (zp := []) rfl (key_int q hq.1 hq.2)
  rw [h.val q] at hv
  have e : v = plA (V q) (S.2 q) := by
    have e := Option.some.inj hv
    simp only [Prod.mk.injEq] at e
    exact DataW.held.inj e.1
  rw [hrun, e]
theorem SplAt.keepF {W W' : World} {base mb cn : Nat} {V : Int → Value} {S : Spl} {D : DataW Value} (h : SplAt W base mb cn V S D) (hm : W'.heap[mb]? = W.heap[mb]?) (hk : ∀ q b, (V q).ownBlock = some b → W'.heap[b]? = W.heap[b]?) : SplAt W' base mb cn V S D := by
  refine ⟨?_, h.val, h.has_, fun q => own_keep (h.row q) (hk q), h.apart, h.out⟩
  obtain ⟨es, clock, hb, r⟩ := h.own
  exact ⟨es, clock, hm.trans hb, r⟩
theorem SplAt.lts {W : World} {base mb cn : Nat} {V : Int → Value} {S : Spl} {D : DataW Value} (h : SplAt W base mb cn V S D) (q : Int) {b : Nat} (hb : (V q).ownBlock = some b) : b < W.heap.size := own_lt (h.row q) hb
theorem SplAt.keep {W W' : World} {base mb cn : Nat} {V : Int → Value} {S : Spl} {D : DataW Value} (h : SplAt W base mb cn V S D) (hb : Below W.heap.size W W') : SplAt W' base mb cn V S D :=
  h.keepF (hb.block mb h.own.lt) fun q b hq => hb.block b (h.lts q hq)
/-- A row's block holds cells of its type. -/
theorem row_type {W : World} {base e size n : Nat} {v : Value} {xs : List Value} (h : W.ownsRow base e size v n xs) {b : Nat} (hb : v.ownBlock = some b) : ∃ cur, W.heap[b]? = some (.cells cur e (0, 0)) := by
  rcases h.2 with ⟨rfl, _⟩ | ⟨g, cap, cur, rfl, _, hh, _⟩
  · cases hb
  · cases hb; exact ⟨cur, hh⟩
theorem SplAt.not_map {W : World} {base mb cn : Nat} {V : Int → Value} {S : Spl} {D : DataW Value} (h : SplAt W base mb cn V S D) (q : Int) {b : Nat} (hb : (V q).ownBlock = some b) : b ≠ mb := by
  rintro rfl
  obtain ⟨cur, hc⟩ := row_type (h.row q) hb
  obtain ⟨es, clock, hh, _⟩ := h.own
  rw [hc] at hh
  cases hh
/-- A tick more: what widen has written, and the store. -/
theorem SplAt.step {W W1 W2 : World} {base mb cn : Nat} {V : Int → Value} {S : Spl} {D : DataW Value} (h : SplAt W base mb cn V S D) {u c t : Int} {v' : Value}
    (hr : W1.ownsRow base 61 2 v' (widT (S.2 u) u c (ofI [t])).ps.length (pcsCells (widT (S.2 u) u c (ofI [t])).ps)) (ha : Apart (fun b => (V u).ownBlock = some b) W W1)
    (hv : (∃ b, (V u).ownBlock = some b ∧ v'.ownBlock = some b) ∨ ∃ b, v'.ownBlock = some b ∧ W.heap.size ≤ b)
    (ho : W2.ownsMap Try.prog 3 elemP mb (cn + 1) (D.put (.int .i64 u) (.held (plA v' (widT (S.2 u) u c (ofI [t])))))) (hg : W1.grownBy W2 (some mb)) :
    SplAt W2 base mb (cn + 1) (fun q => if q = u then v' else V q) (stepS c t S u) (D.put (.int .i64 u) (.held (plA v' (widT (S.2 u) u c (ofI [t]))))) := by
  have hblk : ∀ q b, q ≠ u → (V q).ownBlock = some b → W1.heap[b]? = W.heap[b]? := fun q b hq hb => ha.block b (h.lts q hb) fun e => h.apart q u b hq hb e
  have hmb' : ∀ {b : Nat}, v'.ownBlock = some b → b ≠ mb := fun {b} hb => by
    rcases hv with ⟨b', h1, h2⟩ | ⟨b', h2, h3⟩
    · rw [hb] at h2; cases h2; exact h.not_map u h1
    · rw [hb] at h2; cases h2; have := h.own.lt; omega
  refine ⟨ho, fun q => ?_, fun q => ?_, fun q => ?_, fun q q' b hne hb => ?_, fun q hq => ?_⟩
  · show _ = DataW.held (plA (if q = u then v' else V q) (if q = u then _ else S.2 q))
    by_cases e : q = u
    · subst e
      rw [if_pos rfl, if_pos rfl, atKey_put_same h.own.isMap (keyLit_int _)]
    · rw [if_neg e, if_neg e, atKey_put_other (lit_ne e)]
      exact h.val q
  · show _ = decide (q ∈ if u ∈ S.1 then S.1 else S.1 ++ [u])
    by_cases e : q = u
    · subst e
      rw [has_put_same h.own.isMap (keyLit_int _)]
      split
      · rename_i hm; rw [decide_eq_true hm]
      · simp
    · rw [has_put_other (lit_ne e), h.has_ q]
      split
      · rfl
      · simp [e]
  · show W2.ownsRow base 61 2 (if q = u then v' else V q) (if q = u then _ else S.2 q).ps.length (pcsCells (if q = u then _ else S.2 q).ps)
    by_cases e : q = u
    · subst e
      rw [if_pos rfl, if_pos rfl]
      exact own_keep hr fun b hb => hg.block b (own_lt hr hb) fun e => hmb' hb (Option.some.inj e)
    · rw [if_neg e, if_neg e]
      refine own_keep (own_keep (h.row q) fun b hb => hblk q b e hb) fun b hb => hg.block b (Nat.lt_of_lt_of_le (h.lts q hb) ha.size) fun e => h.not_map q hb (Option.some.inj e)
  · have hb2 : (if q = u then v' else V q).ownBlock = some b := hb
    clear hb
    show (if q' = u then v' else V q').ownBlock ≠ some b
    by_cases e : q = u
    · rw [if_pos e] at hb2
      rw [if_neg (fun e' => hne (e.trans e'.symm))]
      rcases hv with ⟨b', h1, h2⟩ | ⟨b', h2, h3⟩
      · rw [hb2] at h2; cases h2
        exact h.apart u q' b (fun e' => hne (e.trans e')) h1
      · rw [hb2] at h2; cases h2
        intro e'
        have := h.lts q' e'
        omega
    · rw [if_neg e] at hb2
      by_cases e' : q' = u
      · rw [if_pos e']
        rcases hv with ⟨b', h1, h2⟩ | ⟨b', h2, h3⟩
        · intro e2
          rw [h2] at e2
          cases e2
          exact h.apart q u b e hb2 h1
        · intro e2
          rw [h2] at e2
          cases e2
          have := h.lts q hb2
          omega
      · rw [if_neg e']
        exact h.apart q q' b hne hb2
  · show (if q = u then v' else V q) = .slice none 0 0
    have hq' : q ∉ S.1 ∧ q ≠ u := by
      have hq : q ∉ (if u ∈ S.1 then S.1 else S.1 ++ [u]) := hq
      by_cases e : u ∈ S.1
      · rw [if_pos e] at hq
        exact ⟨hq, fun e' => hq (e' ▸ e)⟩
      · rw [if_neg e] at hq
        simp at hq
        exact hq
    rw [if_neg hq'.2]
    exact h.out q hq'.1
theorem own_keepM' {w w' : World} {R : Value → Option (DataW Value × List MemPlace)} {b n : Nat} {D : DataW Value} (h : w.ownsMap Try.prog 3 R b n D) (e : w'.heap[b]? = w.heap[b]?) : w'.ownsMap Try.prog 3 R b n D := by
  obtain ⟨es, clock, hb, r⟩ := h
  exact ⟨es, clock, e.trans hb, r⟩
theorem below_map' {W0 W W' : World} {B mb : Nat} (h : Below B W0 W) (hB : B ≤ mb) (hg : W.grownBy W' (some mb)) (hs : B ≤ W.heap.size) : Below B W0 W' := h.trans ⟨hg.os, hg.tape, hg.output, hg.size, fun k hk => hg.block k (by omega) (fun e => by have := Option.some.inj e; omega)⟩
/-- What splits tells: a map of its own. -/
def RetSpl (base : Nat) (S : Spl) (w : World) (e : Ending) (w' : World) : Prop := ∃ mb cn V D, e = .returned (.map (some mb)) ∧ base ≤ mb ∧ SplAt w' base mb cn V S D ∧ Below w.heap.size w w'

set_option maxRecDepth 100000 in
set_option maxHeartbeats 8000000 in
theorem splits_tab (v : Value) (l : List Tb) (w : World) (h : TabsAt w v l) (hl : l.length ≤ 20) (ho : TsOk l) (hn : ticksN l ≤ 1200000) :
    Calls Try.prog 53 #[v] w (RetSpl w.heap.size (splT l) w) := by
  obtain ⟨A, cA, rfl, hlc, hcm⟩ := h.form
  have HL := Lib.hid h
  have HTO := Lib.hid ho
  have HTN := Lib.hid hn
  obtain ⟨n, hnn⟩ : ∃ n, l.length = n := ⟨_, rfl⟩
  rw [hnn] at HL hl hlc ⊢
  have HN := Lib.hid hnn
  have hown := World.ownsMap_made (H := Value) w Try.prog 3 elemP
  obtain ⟨mb, hmb⟩ : ∃ mb, w.heap.size = mb := ⟨_, rfl⟩
  have hb1 : Below w.heap.size w (w.alloc (.map #[] 0)) := (Below.refl _ _).alloc (Nat.le_refl _) _
  obtain ⟨w1, hw1⟩ : ∃ w1, w.alloc (.map #[] 0) = w1 := ⟨_, rfl⟩
  have hmk : (Instr.makeMap 88 none).run Try.prog w = .ok (.map (some mb)) w1 := by rw [← hw1, ← hmb]; rfl
  rw [hw1] at hown hb1
  rw [hmb] at hown
  have HS1 : Hid (SplAt w1 w.heap.size mb 0 (fun _ => .slice none 0 0) (splT (l.take 0)) (.map [])) := Lib.hid ⟨hown, fun q => rfl, fun q => by simp [splT, splS]; rfl, fun q => World.ownsRow_nil _ _ _ _, fun q q' b _ hb => (by cases hb), fun q _ => rfl⟩
  have HB1 := Lib.hid hb1
  have HMB := Lib.hid (show w.heap.size = mb from hmb)
  clear h ho hn hnn hown hb1 hw1 hmb
  go_enter Try.func53, Try.ntmps53
  go_wp2_with fail
  clear hmk
  go_loopg [5, 6, 7, 11] n (fun gg _ _ _ s11 wr => ∃ (i cn : Nat) (V : Int → Value) (D : DataW Value), i ≤ n ∧ gg = n - i ∧ s11 = .int .i64 i ∧ SplAt wr w.heap.size mb cn V (splT (l.take i)) D ∧ cn ≤ ticksN (l.take i) ∧ Below w.heap.size w wr)
  case atStart => exact ⟨0, 0, _, _, Nat.zero_le _, by omega, rfl, HS1.out, Nat.zero_le _, HB1.out⟩
  case round =>
    obtain ⟨i, cn, V, D, hi, hg, rfl, hsp, hcn, hbw⟩ := hrel
    have HG := Lib.hid hg
    have HSP := Lib.hid hsp
    have HCN := Lib.hid hcn
    have HBW := Lib.hid hbw
    clear hg hsp hcn
    by_cases hin : i < n
    · have hi0 : (0 : Int) ≤ (i : Int) := by omega
      have hiz : (i : Int) < (n : Int) := by omega
      obtain ⟨x, hx⟩ := exP_at (xs := l) (k := i) (by rw [HN.out]; exact hin)
      obtain ⟨bt, ot, A1, c1, A2, c2, hA, hbt, g0', g1', g2', hi1, _⟩ := HL.out.at_ hx
      have g0 := (hbw.cell (p := ⟨bt, ot + i * 3, none⟩) hbt).trans g0'
      have g1 := (hbw.cell (p := ⟨bt, ot + i * 3 + 1, none⟩) hbt).trans g1'
      have g2 := (hbw.cell (p := ⟨bt, ot + i * 3 + 2, none⟩) hbt).trans g2'
      subst hA
      clear g0' g1' g2'
      have HX := Lib.hid hx
      have HTK := Lib.hid (ticksN_take hx)
      have HST := Lib.hid (splT_take hx)
      have HTS := Lib.hid (HTO.out x (List.mem_of_getElem? hx))
      have HBD := Lib.hid (splT_b HTO.out x.c i (by rw [HN.out]; omega))
      have HIW := Lib.hid hi1
      obtain ⟨nt, hnt⟩ : ∃ nt, x.ts.length = nt := ⟨_, rfl⟩
      rw [hnt] at g1 HIW HTK
      have HNT := Lib.hid hnt
      have hntb : nt ≤ 1200000 := by
        have h1 := HTK.out
        have h2 := ticksN_le l (i + 1)
        have h3 := HTN.out
        omega
      obtain ⟨w2, X, hw2, hX, hXl, hb2, hxb⟩ := box_any wr #[.int .i64 x.c, .slice A1 nt c1, .slice A2 x.ws.length c2] 38
      obtain ⟨x0, x1, x2⟩ := three_heads hxb
      have HXB := Lib.hid hxb
      have HS2 := Lib.hid (HSP.out.keep hb2)
      have HB2 := Lib.hid (HBW.out.trans (hb2.mono HBW.out.size))
      have HXL := Lib.hid (show w.heap.size ≤ X by have := HBW.out.size; omega)
      clear hx hnt hb2 hxb hi1
      go_wp2_with fail
      clear x0 x1 x2 g0 g1 g2 hw2 hX
      go_loopg [6, 7, 18] nt (fun gg _ _ s18 wr => ∃ (k cn2 : Nat) (V2 : Int → Value) (D2 : DataW Value), k ≤ nt ∧ gg = nt - k ∧ s18 = .int .i64 k ∧ SplAt wr w.heap.size mb cn2 V2 (rowSp x.c 0 (x.ts.take k) (splT (l.take i))) D2 ∧ cn2 ≤ ticksN (l.take i) + k ∧ Below w.heap.size w wr ∧ wr.heap[X]? = some (.cells #[.int .i64 x.c, .slice A1 nt c1, .slice A2 x.ws.length c2] 38 (0, 0)))
      case atStart => exact ⟨0, cn, V, D, Nat.zero_le _, by omega, rfl, HS2.out, HCN.out, HB2.out, HXB.out⟩
      case round =>
        obtain ⟨k, cn2, V2, D2, hk, hgk, rfl, hsp, hcn2, hbk, hxk⟩ := hrel
        have HGK := Lib.hid hgk
        have HSK := Lib.hid hsp
        have HCK := Lib.hid hcn2
        have HBK := Lib.hid hbk
        have HXK := Lib.hid hxk
        obtain ⟨x0, x1, x2⟩ := three_heads hxk
        clear hgk hsp hcn2 hxk
        by_cases hkn : k < nt
        · have hk0 : (0 : Int) ≤ (k : Int) := by omega
          have hkz : (k : Int) < (nt : Int) := by omega
          obtain ⟨u, hu⟩ := exP_at (xs := x.ts) (k := k) (by rw [HNT.out]; exact hkn)
          obtain ⟨A', c', e, _, h3⟩ := HIW.out.keep hbk
          obtain ⟨b4, o4, e4, hbl4, hc⟩ := h3 (by rw [HNT.out]; omega)
          injection e with e1 e2 e3
          rw [e4] at e1
          subst e1
          have c0 := hc k u hu
          have HNX := Lib.hid (rowSp_take hu x.c (splT (l.take i)))
          have HU := Lib.hid (HTS.out.2.1 u (List.mem_of_getElem? hu))
          have HBS := Lib.hid (SplB.row (x.ts.take k) 0 _ HBD.out fun q hq => HTS.out.2.1 q (List.mem_of_mem_take hq))
          have hlk : (x.ts.take k).length = k := by rw [List.length_take, HNT.out]; omega
          rw [hlk] at HBS
          clear h3 hc e2 e3 e4 hu hlk hbk
          by_cases hu0 : u = 0
          · have hu1 : (u != 0) = false := by simpa using hu0
            have HNS : Hid (rowSp x.c 0 (x.ts.take (k + 1)) (splT (l.take i)) = rowSp x.c 0 (x.ts.take k) (splT (l.take i))) := Lib.hid (by rw [HNX.out, hu0]; rfl)
            clear hu0
            go_wp2_with fail
            go_roundg (nt - (k + 1))
            case measure => have := HGK.out; omega
            case rel => exact ⟨k + 1, cn2, V2, D2, by omega, rfl, by go_num, by rw [HNS.out]; exact HSK.out, by have := HCK.out; omega, HBK.out, HXK.out⟩
          · have hu1 : (u != 0) = true := by simpa using hu0
            obtain ⟨S, hS⟩ : ∃ S, rowSp x.c 0 (x.ts.take k) (splT (l.take i)) = S := ⟨_, rfl⟩
            rw [hS] at HSK HBS HNX
            have HNS : Hid (rowSp x.c 0 (x.ts.take (k + 1)) (splT (l.take i)) = stepS x.c (k : Int) S u) := Lib.hid (by rw [HNX.out]; exact if_neg hu0)
            have L1 := HSK.out.look HU.out
            have hpb := HBS.out.each u
            have hpl : (S.2 u).ps.length ≤ 1000 := by rcases hpb.len with h | h <;> omega
            have htn : ticksN (l.take i) ≤ 1200000 := Nat.le_trans (ticksN_le l i) HTN.out
            have htn2 : ticksN (l.take i) + k ≤ 1200000 := by
              have h1 := HTK.out
              have h2 := ticksN_le l (i + 1)
              have h3 := HTN.out
              omega
            have HWI := Lib.hid (widen_any w.heap.size (V2 u) (S.2 u) u x.c (k : Int) wr (HSK.out.row u) hpl hpb.s0 (by have := hpb.s1; omega) HBK.out.size hpb.t)
            have hcl : cn2 < 1300000 := by have := HCK.out; omega
            unfold plA at L1 HWI
            clear hS hu0 hpb hpl htn htn2
            go_wp2_with fail
            refine HWI.out.mono ?_
            rintro e w3 ⟨v', rfl, hrow', hap, hv'⟩
            have HRO := Lib.hid hrow'
            have HAP := Lib.hid hap
            have HV := Lib.hid hv'
            have HM3 : Hid (w3.ownsMap Try.prog 3 elemP mb cn2 D2) := Lib.hid (own_keepM' HSK.out.own (hap.block mb HSK.out.own.lt fun e => HSK.out.not_map u e rfl))
            have HX3 : Hid (w3.heap[X]? = some (.cells #[.int .i64 x.c, .slice (some ⟨b4, o4, none⟩) nt c1, .slice A2 x.ws.length c2] 38 (0, 0))) := Lib.hid ((hap.block X (heap_lt HXK.out) fun e => by
              obtain ⟨cur, hc⟩ := row_type (HSK.out.row u) e
              rw [HXK.out] at hc
              cases hc).trans HXK.out)
            have HB3 : Hid (Below w.heap.size w w3) := Lib.hid (HBK.out.trans (hap.below HBK.out.size fun k hk e => by
              have := own_base5 (HSK.out.row u) k e
              omega))
            have HKEY := Lib.hid (key_int u HU.out.1 HU.out.2)
            clear hrow' hap hv' L1 x0 x1 x2 c0
            unfold plA
            go_wp2_with (at_mapUpdate; refine wpList_mapUpdate_own _ rfl _ _ _ 88 rfl 3 56 keyedInt Try.underlying88 elemP mb cn2 D2 rfl HM3.out (by unfold maxLen; omega) _ _ (.int .i64 u) rfl rfl HKEY.out (.held (plA v' (widT (S.2 u) u x.c (ofI [(k : Int)])))) [] rfl ?_)
            intro w4 hown4 hg4
            have HS4 := Lib.hid (HSK.out.step HRO.out HAP.out HV.out hown4 hg4)
            have HX4 : Hid (w4.heap[X]? = some (.cells #[.int .i64 x.c, .slice (some ⟨b4, o4, none⟩) nt c1, .slice A2 x.ws.length c2] 38 (0, 0))) := Lib.hid ((hg4.block X (heap_lt HX3.out) fun e => by
              obtain ⟨es, clock, hh, _⟩ := HM3.out
              rw [← Option.some.inj e, HX3.out] at hh
              cases hh).trans HX3.out)
            have HB4 := Lib.hid (below_map' HB3.out (Nat.le_of_eq HMB.out) hg4 HB3.out.size)
            clear hown4 hg4
            go_wp2_with fail
            go_roundg (nt - (k + 1))
            case measure => have := HGK.out; omega
            case rel => exact ⟨k + 1, cn2 + 1, _, _, by omega, rfl, by go_num, by rw [HNS.out]; exact HS4.out, by have := HCK.out; omega, HB4.out, HX4.out⟩
        · have hkz : ¬ (k : Int) < (nt : Int) := by omega
          have HE : Hid (rowSp x.c 0 (x.ts.take k) (splT (l.take i)) = splT (l.take (i + 1))) := Lib.hid (by rw [List.take_of_length_le (by rw [HNT.out]; omega)]; exact HST.out.symm)
          rw [HE.out] at HSK
          go_wp2_with fail
          go_roundg (n - (i + 1))
          case measure => have := HG.out; omega
          case rel => exact ⟨i + 1, cn2, V2, D2, by omega, rfl, by go_num, HSK.out, by have := HCK.out; have := HTK.out; omega, HBK.out⟩
    · have hiz : ¬ (i : Int) < (n : Int) := by omega
      have HE := Lib.hid (show l.take i = l from List.take_of_length_le (by rw [HN.out]; omega))
      rw [HE.out] at HSP
      go_wp2_with fail
      go_ret
      exact ⟨mb, cn, V, D, rfl, Nat.le_of_eq HMB.out, HSP.out, HBW.out⟩
end Go.Proofs.Ytpjmdnhoiobedaa
