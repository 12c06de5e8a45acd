/-
  A table and a map that tell the same: behind Take, behind Drop; the ids, and what they hold.
  Conditions: none.
-/
import Derived.Test.YtlnheknhdabhdaaIdsU
import Derived.Maps.Own
import Derived.Maps.OwnOps
import Derived.Maps.OwnSet
import Derived.Maps.Views
set_option linter.unusedVariables false
namespace Go.Proofs.Ytlnheknhdabhdaa
open Go.RowKit Go.Maps TU

theorem keyedInt : Keyed Try.prog 3 := int_keyed Try.underlying3
theorem zeroWord (w : World) : (zeroValue 47).run Try.prog w = .ok (.int .u64 0) w := by kernel_rfl
theorem key_int (q : Int) (h0 : -9223372036854775808 ≤ q) (h1 : q ≤ 9223372036854775807) : keyOf Try.prog 3 (.int .i64 q) = some (.int .i64 q) := keyOf_int_mk Try.underlying3 (WalkArith.wf_i64 ⟨h0, h1⟩)
theorem lit_ne {a b : Int} (h : a ≠ b) : (Lit.int .i64 a) ≠ (Lit.int .i64 b) := by intro e; injection e with _ e; exact h e
theorem keyLit_int (q : Int) : WideAt.IsKeyLit (.int .i64 q) := by first | exact trivial | simp [WideAt.IsKeyLit] | exact ⟨_, _, rfl⟩
theorem own_keepM {w w' : World} {R : Value → Option (DataW Unit × List MemPlace)} {b n : Nat} {D : DataW Unit} (h : w.ownsMap Try.prog 3 R b n D) (e : w'.heap[b]? = w.heap[b]?) : w'.ownsMap Try.prog 3 R b n D := by
  obtain ⟨es, clock, hb, r⟩ := h
  exact ⟨es, clock, e.trans hb, r⟩

theorem inU_iff {s : Ts Int} {q : Int} : inU s q = true ↔ ∃ i : Nat, q = ((i + 1 : Nat) : Int) ∧ i < s.m ∧ s.use i = true := by
  constructor
  · exact inU_some
  · rintro ⟨i, rfl, hi, hu⟩
    rw [inU_nat, decide_eq_true hi, hu]
    rfl

/-- The map has just what the table has. -/
structure Kp (w : World) (mb cnt : Nat) (D : DataW Unit) (s : Ts Int) : Prop where
  own : w.ownsMap Try.prog 3 (plainElem Try.prog 47) mb cnt D
  has : ∀ q : Int, Maps.has D (.int .i64 q) = inU s q
  val : ∀ i : Nat, i < s.m → s.use i = true → D.atKey (.int .i64 ((i + 1 : Nat) : Int)) (.lit (.int .u64 0)) = .lit (.int .u64 (s.x i))
  sz : Maps.size D = cntU s.use s.m
theorem Kp.keep {w w' : World} {mb cnt : Nat} {D : DataW Unit} {s : Ts Int} (h : Kp w mb cnt D s) (e : w'.heap[mb]? = w.heap[mb]?) : Kp w' mb cnt D s := ⟨own_keepM h.own e, h.has, h.val, h.sz⟩
theorem Kp.below {w w' : World} {mb cnt : Nat} {D : DataW Unit} {s : Ts Int} (h : Kp w mb cnt D s) (hb : Below w.heap.size w w') : Kp w' mb cnt D s := h.keep (hb.block mb h.own.lt)

/-- What one more makes of the table: slot i, which was not in use, holds v. -/
structure Took (s s' : Ts Int) (i : Nat) (v : Int) : Prop where
  ok : Okay s'
  n : s'.n = s.n
  im : i < s'.m
  fresh : inU s ((i + 1 : Nat) : Int) = false
  now : s'.use i = true
  x : s'.x i = v
  live : ∀ q, q ≠ ((i + 1 : Nat) : Int) → inU s' q = inU s q
  same : ∀ j, j ≠ i → s'.x j = s.x j
  cnt : cntU s'.use s'.m = cntU s.use s.m + 1
  gen : ∀ j, s'.gen j = s.gen j ∨ s'.gen j = 1
theorem took_old {s : Ts Int} (o : Okay s) (v : Int) (hk : 0 < s.k) : Took s (takeOld s v) (s.fr (s.k - 1) - 1) v := by
  have hlo := o.lo (s.k - 1) (by omega)
  have hoff := o.off (s.k - 1) (by omega)
  have ho := o.old v hk
  have hc := cntU_on hoff (m := s.m) (by omega)
  generalize hi : s.fr (s.k - 1) - 1 = i at *
  have e1 : (takeOld s v).x = upd s.x i v := by unfold takeOld; rw [hi]
  have e2 : (takeOld s v).use = upd s.use i true := by unfold takeOld; rw [hi]
  have e3 : (takeOld s v).m = s.m := rfl
  refine ⟨ho, rfl, by rw [e3]; omega, ?_, by rw [e2, upd_same], by rw [e1, upd_same], fun q hq => ?_, fun j hj => by rw [e1, upd_other hj], by rw [e2, e3]; exact hc, fun j => .inl rfl⟩
  · rw [inU_nat, hoff, Bool.and_false]
  · rw [Bool.eq_iff_iff, inU_iff, inU_iff]
    constructor
    · rintro ⟨j, rfl, hj, hu⟩
      rw [e2, upd_other (fun e => hq (by rw [e]))] at hu
      exact ⟨j, rfl, hj, hu⟩
    · rintro ⟨j, rfl, hj, hu⟩
      exact ⟨j, rfl, hj, by rw [e2, upd_other (fun e => hq (by rw [e]))]; exact hu⟩
theorem took_new {s : Ts Int} (o : Okay s) (v : Int) (hk : s.k = 0) (hm : s.m < s.n) : Took s (takeNew s v) s.m v := by
  have ho := o.new v hk hm
  refine ⟨ho, rfl, Nat.lt_succ_self _, ?_, upd_same _ _ _, upd_same _ _ _, fun q hq => ?_, fun j hj => upd_other hj, ?_, fun j => ?_⟩
  · rw [inU_nat, decide_eq_false (by omega), Bool.false_and]
  · rw [Bool.eq_iff_iff, inU_iff, inU_iff]
    constructor
    · rintro ⟨j, rfl, hj, hu⟩
      have hne : j ≠ s.m := fun e => hq (by rw [e])
      have hj' : j < s.m + 1 := hj
      have hu' : upd s.use s.m true j = true := hu
      rw [upd_other hne] at hu'
      exact ⟨j, rfl, by omega, hu'⟩
    · rintro ⟨j, rfl, hj, hu⟩
      exact ⟨j, rfl, Nat.lt_succ_of_lt hj, by show upd s.use s.m true j = true; rw [upd_other (by omega)]; exact hu⟩
  · show cntU (upd s.use s.m true) s.m + (if upd s.use s.m true s.m = true then 1 else 0) = _
    rw [upd_same, cntU_congr (v := s.use) (fun j hj => upd_other (by omega)), if_pos rfl]
  · show upd s.gen s.m 1 j = s.gen j ∨ _
    by_cases e : j = s.m
    · right; subst e; exact upd_same _ _ _
    · left; exact upd_other e
/-- Take, as long as there is room. -/
theorem take_keep {s : Ts Int} (o : Okay s) (v : Int) (hc : cntU s.use s.m < s.n) : ∃ (s' : Ts Int) (i g : Nat), Took s s' i v ∧ ∀ w tb sv fv, TabAt w tb sv fv s →
    Calls Try.prog 17 #[.pointer (some ⟨tb, 0, none⟩), .int .u64 v] w (MutPost w tb sv fv (.tuple #[.int .i64 ((i + 1 : Nat) : Int), .int .i64 g, .int .i64 0]) s') := by
  have hcnt := o.cnt
  by_cases hk : 0 < s.k
  · have hlo := o.lo (s.k - 1) (by omega)
    refine ⟨takeOld s v, s.fr (s.k - 1) - 1, s.gen (s.fr (s.k - 1) - 1), took_old o v hk, fun w tb sv fv h => ?_⟩
    rw [show s.fr (s.k - 1) - 1 + 1 = s.fr (s.k - 1) by omega]
    exact take_old w tb sv fv s v h o hk
  · exact ⟨takeNew s v, s.m, 1, took_new o v (by omega) (by omega), fun w tb sv fv h => take_new w tb sv fv s v h o (by omega) (by omega)⟩
theorem Kp.took {w w' : World} {mb cnt i : Nat} {D : DataW Unit} {s s' : Ts Int} {v : Int} (h : Kp w mb cnt D s) (t : Took s s' i v) (ho : w'.ownsMap Try.prog 3 (plainElem Try.prog 47) mb (cnt + 1) (D.put (.int .i64 ((i + 1 : Nat) : Int)) (.lit (.int .u64 v)))) :
    Kp w' mb (cnt + 1) (D.put (.int .i64 ((i + 1 : Nat) : Int)) (.lit (.int .u64 v))) s' := by
  have hD := h.own.isMap
  have hT := h.own.tidy keyedInt
  refine ⟨ho, fun q => ?_, fun j hj hu => ?_, ?_⟩
  · by_cases e : q = ((i + 1 : Nat) : Int)
    · subst e
      rw [has_put_same hD (keyLit_int _), inU_nat, decide_eq_true t.im, t.now]
      rfl
    · rw [has_put_other (lit_ne e), h.has, t.live q e]
  · by_cases e : j = i
    · subst e
      rw [atKey_put_same hD (keyLit_int _), t.x]
    · have hne : ((j + 1 : Nat) : Int) ≠ ((i + 1 : Nat) : Int) := by omega
      have hl := t.live _ hne
      rw [inU_nat, decide_eq_true hj, hu] at hl
      obtain ⟨j', e1, hj', hu'⟩ := inU_iff.1 hl.symm
      have : j' = j := by omega
      subst this
      rw [atKey_put_other (lit_ne hne), h.val j' hj' hu', t.same j' e]
  · rw [size_put hT, h.has, t.fresh, h.sz, t.cnt]
    rfl

/-- What Drop of slot i makes of it. -/
structure Fell (s s' : Ts Int) (i : Nat) : Prop where
  ok : Okay s'
  n : s'.n = s.n
  was : inU s ((i + 1 : Nat) : Int) = true
  gone : inU s' ((i + 1 : Nat) : Int) = false
  live : ∀ q, q ≠ ((i + 1 : Nat) : Int) → inU s' q = inU s q
  same : ∀ j, j ≠ i → s'.x j = s.x j
  cnt : cntU s'.use s'.m + 1 = cntU s.use s.m
  gen : ∀ j, s'.gen j = s.gen j ∨ s'.gen j = s.gen j + 1
theorem fell {s : Ts Int} (o : Okay s) {i : Nat} (hi : i < s.m) (hu : s.use i = true) : Fell s (dropT s i 0) i := by
  refine ⟨o.drop 0 hi hu, rfl, ?_, ?_, fun q hq => ?_, fun j hj => upd_other hj, cntU_off hu hi, fun j => ?_⟩
  · rw [inU_nat, decide_eq_true hi, hu]; rfl
  · rw [inU_nat]
    show (decide (i < s.m) && upd s.use i false i) = false
    rw [upd_same, Bool.and_false]
  · rw [Bool.eq_iff_iff, inU_iff, inU_iff]
    constructor
    · rintro ⟨j, rfl, hj, hu'⟩
      have hu2 : upd s.use i false j = true := hu'
      rw [upd_other (fun e => hq (by rw [e]))] at hu2
      exact ⟨j, rfl, hj, hu2⟩
    · rintro ⟨j, rfl, hj, hu'⟩
      exact ⟨j, rfl, hj, by show upd s.use i false j = true; rw [upd_other (fun e => hq (by rw [e]))]; exact hu'⟩
  · show upd s.gen i (s.gen i + 1) j = s.gen j ∨ upd s.gen i (s.gen i + 1) j = s.gen j + 1
    by_cases e : j = i
    · right; subst e; exact upd_same _ _ _
    · left; exact upd_other e
theorem Kp.fell {w w' : World} {mb cnt i : Nat} {D : DataW Unit} {s s' : Ts Int} (h : Kp w mb cnt D s) (t : Fell s s' i) (ho : w'.ownsMap Try.prog 3 (plainElem Try.prog 47) mb cnt (D.del (.int .i64 ((i + 1 : Nat) : Int)))) :
    Kp w' mb cnt (D.del (.int .i64 ((i + 1 : Nat) : Int))) s' := by
  have hT := h.own.tidy keyedInt
  refine ⟨ho, fun q => ?_, fun j hj hu => ?_, ?_⟩
  · by_cases e : q = ((i + 1 : Nat) : Int)
    · subst e
      rw [has_del_same, t.gone]
    · rw [has_del_other (lit_ne e), h.has, t.live q e]
  · have hin : inU s' ((j + 1 : Nat) : Int) = true := by rw [inU_nat, decide_eq_true hj, hu]; rfl
    have hne : ((j + 1 : Nat) : Int) ≠ ((i + 1 : Nat) : Int) := fun e => by rw [e, t.gone] at hin; cases hin
    have hl := t.live _ hne
    rw [hin] at hl
    obtain ⟨j', e1, hj', hu'⟩ := inU_iff.1 hl.symm
    have : j' = j := by omega
    subst this
    have hji : j' ≠ i := fun e => hne (by rw [e])
    rw [atKey_del_other (lit_ne hne), h.val j' hj' hu', t.same j' hji]
  · have := size_del (k := .int .i64 ((i + 1 : Nat) : Int)) hT
    rw [h.has, t.was, h.sz, ← t.cnt] at this
    simp only [if_true] at this
    omega

/-- Each id in use. -/
theorem idsU_mem {u : Nat → Bool} : ∀ {m t : Nat}, t ∈ idsU u m → ∃ i, t = i + 1 ∧ i < m ∧ u i = true
  | 0, t, h => by cases h
  | m + 1, t, h => by
    unfold idsU at h
    split at h
    · rename_i hu
      rcases List.mem_append.1 h with h | h
      · obtain ⟨i, h1, h2, h3⟩ := idsU_mem h
        exact ⟨i, h1, by omega, h3⟩
      · rw [List.mem_singleton] at h
        exact ⟨m, h, by omega, hu⟩
    · obtain ⟨i, h1, h2, h3⟩ := idsU_mem h
      exact ⟨i, h1, by omega, h3⟩
/-- The numbers that the table holds are words. -/
def WordsIn (s : Ts Int) : Prop := ∀ j, inU s ((j + 1 : Nat) : Int) = true → ∃ y : Nat, y < 18446744073709551616 ∧ s.x j = (y : Int)
theorem WordsIn.took {s s' : Ts Int} {i y : Nat} (h : WordsIn s) (t : Took s s' i (y : Int)) (hy : y < 18446744073709551616) : WordsIn s' := by
  intro j hj
  by_cases e : j = i
  · subst e; exact ⟨y, hy, t.x⟩
  · rw [t.live _ (by omega)] at hj
    obtain ⟨z, hz, e2⟩ := h j hj
    exact ⟨z, hz, by rw [t.same j e, e2]⟩
theorem WordsIn.fell {s s' : Ts Int} {i : Nat} (h : WordsIn s) (t : Fell s s' i) : WordsIn s' := by
  intro j hj
  by_cases e : j = i
  · subst e; rw [t.gone] at hj; cases hj
  · rw [t.live _ (by omega)] at hj
    obtain ⟨z, hz, e2⟩ := h j hj
    exact ⟨z, hz, by rw [t.same j e, e2]⟩
end Go.Proofs.Ytlnheknhdabhdaa
