/-
  Numbers alone: the runs of a set of ticks are the normal row of its ticks' spans; its gaps are the runs of all others; together they have 64.
  Conditions: the set is a word.
-/
import Derived.Test.YtademjmnoncieaaDoorRunMath
import Derived.Test.YtademjmnoncieaaDoorTotal
set_option linter.unusedVariables false
namespace Go.Proofs.YtademjmnoncieaaDoor
open Go.RowKit

def toS (p : Nat × Nat) : Sp := ((p.1 : Int), (p.2 : Int))
def runsS (m : Nat) : List Sp := (runsT m 64).map toS
def unitS (m k : Nat) : List Sp := (ticksT m k).map fun t : Nat => ((t : Int), (t : Int) + 1)

theorem mem_ticks {m k t : Nat} : t ∈ ticksT m k ↔ t < k ∧ m.testBit t = true := by
  unfold ticksT
  rw [List.mem_filter, List.mem_range]
theorem mem_runs {m : Nat} {p : Nat × Nat} : p ∈ runsT m 64 ↔ ∃ t, t < 64 ∧ stB m t = true ∧ p = (t, endN m t) := by
  unfold runsT
  rw [List.mem_map]
  constructor
  · rintro ⟨t, ht, rfl⟩
    obtain ⟨h1, h2⟩ := mem_ticks.1 ht
    exact ⟨t, h1, by rwa [startN_bit h1] at h2, rfl⟩
  · rintro ⟨t, h1, h2, rfl⟩
    exact ⟨t, mem_ticks.2 ⟨h1, by rw [startN_bit h1]; exact h2⟩, rfl⟩
theorem run_lt {m t : Nat} (hm : m < 18446744073709551616) (ht : t < 64) (h : stB m t = true) : t < endN m t := by
  have he := endN_is hm ht
  rcases Nat.lt_or_ge t (endN m t) with h1 | h1
  · exact h1
  · have e : endN m t = t := Nat.le_antisymm h1 he.le
    have := he.out
    rw [e, stB_bit h] at this
    cases this
theorem runs_has {m : Nat} (hm : m < 18446744073709551616) (x : Nat) : (∃ p ∈ runsT m 64, p.1 ≤ x ∧ x < p.2) ↔ x < 64 ∧ m.testBit x = true := by
  constructor
  · rintro ⟨p, hp, h1, h2⟩
    obtain ⟨t, ht, hs, rfl⟩ := mem_runs.1 hp
    have hb := (endN_is hm ht).all x h1 h2
    rcases Nat.lt_or_ge x 64 with h | h
    · exact ⟨h, hb⟩
    · rw [bit_big hm h] at hb; cases hb
  · rintro ⟨hx, hb⟩
    induction x with
    | zero =>
      have hs : stB m 0 = true := by unfold stB; rw [hb]; rfl
      exact ⟨(0, endN m 0), mem_runs.2 ⟨0, hx, hs, rfl⟩, Nat.le_refl _, run_lt hm hx hs⟩
    | succ x ih =>
      by_cases hs : stB m (x + 1) = true
      · exact ⟨_, mem_runs.2 ⟨x + 1, hx, hs, rfl⟩, Nat.le_refl _, run_lt hm hx hs⟩
      · have hp : m.testBit x = true := by
          unfold stB at hs
          rw [hb] at hs
          simpa using hs
        obtain ⟨p, hpm, h1, h2⟩ := ih (by omega) hp
        obtain ⟨t, ht, hst, rfl⟩ := mem_runs.1 hpm
        refine ⟨_, hpm, Nat.le_succ_of_le h1, ?_⟩
        have he := endN_is hm ht
        rcases Nat.lt_or_ge (x + 1) (endN m t) with h | h
        · exact h
        · have e : endN m t = x + 1 := by simp only at h2; omega
          have := he.out
          rw [e, hb] at this
          cases this
theorem runs_normal {m : Nat} (hm : m < 18446744073709551616) : NormalS (runsS m) := by
  refine ⟨fun s hs => ?_, ?_⟩
  · obtain ⟨p, hp, rfl⟩ := List.mem_map.1 hs
    obtain ⟨t, ht, hst, rfl⟩ := mem_runs.1 hp
    have := run_lt hm ht hst
    simp only [toS]
    omega
  · unfold runsS runsT
    rw [List.map_map, List.pairwise_map]
    have hp : (ticksT (startN m) 64).Pairwise (· < ·) := by
      unfold ticksT
      exact List.Pairwise.filter _ List.pairwise_lt_range
    refine hp.imp_of_mem fun {a b} ha hb hab => ?_
    obtain ⟨a1, a2⟩ := mem_ticks.1 ha
    obtain ⟨b1, b2⟩ := mem_ticks.1 hb
    rw [startN_bit b1] at b2
    have he := endN_is hm a1
    simp only [Function.comp, toS]
    rcases Nat.lt_or_ge (endN m a) b with h | h
    · omega
    · exfalso
      obtain ⟨c, rfl⟩ : ∃ c, b = c + 1 := ⟨b - 1, by omega⟩
      have h1 := stB_pred b2
      have h2 := he.all c (by omega) (by omega)
      rw [h1] at h2
      cases h2
theorem runsS_has {m : Nat} (hm : m < 18446744073709551616) (x : Int) : hasS (runsS m) x ↔ ∃ t : Nat, x = t ∧ t < 64 ∧ m.testBit t = true := by
  constructor
  · rintro ⟨s, hs, h1, h2⟩
    obtain ⟨p, hp, rfl⟩ := List.mem_map.1 hs
    simp only [toS] at h1 h2
    obtain ⟨t, rfl⟩ : ∃ t : Nat, x = t := ⟨x.toNat, by omega⟩
    exact ⟨t, rfl, (runs_has hm t).1 ⟨p, hp, by omega, by omega⟩⟩
  · rintro ⟨t, rfl, h⟩
    obtain ⟨p, hp, h1, h2⟩ := (runs_has hm t).2 h
    exact ⟨toS p, List.mem_map.2 ⟨p, hp, rfl⟩, by simp only [toS]; omega, by simp only [toS]; omega⟩
theorem unitS_has (m : Nat) (x : Int) : hasS (unitS m 64) x ↔ ∃ t : Nat, x = t ∧ t < 64 ∧ m.testBit t = true := by
  constructor
  · rintro ⟨s, hs, h1, h2⟩
    obtain ⟨t, ht, rfl⟩ := List.mem_map.1 hs
    simp only at h1 h2
    exact ⟨t, by omega, mem_ticks.1 ht⟩
  · rintro ⟨t, rfl, h⟩
    exact ⟨_, List.mem_map.2 ⟨t, mem_ticks.2 h, rfl⟩, Int.le_refl _, by simp only; omega⟩
theorem norm_units {m : Nat} (hm : m < 18446744073709551616) : normT (unitS m 64) = runsS m :=
  normT_of ⟨runs_normal hm, fun x => (runsS_has hm x).trans (unitS_has m x).symm⟩
theorem gaps_units {m : Nat} (hm : m < 18446744073709551616) : gapsN (unitS m 64) 0 64 = runsS (notN m) :=
  (gapsN_isN (unitS m 64) 0 64).unique (T := hasS (runsS (notN m))) ⟨runs_normal (notN_lt hm), fun _ => Iff.rfl⟩ fun x => by
    rw [runsS_has (notN_lt hm), unitS_has]
    constructor
    · rintro ⟨⟨h1, h2⟩, h3⟩
      obtain ⟨t, rfl⟩ : ∃ t : Nat, x = t := ⟨x.toNat, by omega⟩
      have ht : t < 64 := by omega
      refine ⟨t, rfl, ht, ?_⟩
      rw [notN_bit]
      have : m.testBit t = false := by
        cases hb : m.testBit t
        · rfl
        · exact absurd ⟨t, rfl, ht, hb⟩ h3
      simp [ht, this]
    · rintro ⟨t, rfl, ht, hb⟩
      refine ⟨⟨by omega, by omega⟩, ?_⟩
      rintro ⟨t', e, _, hb'⟩
      have : t' = t := by omega
      subst this
      rw [notN_bit, hb'] at hb
      simp [ht] at hb

theorem normT_self {r : List Sp} (h : NormalS r) : normT r = r := normT_of ⟨h, fun _ => Iff.rfl⟩
theorem wrap64u (x : Int) : IntKind.u64.wrap x = x % 18446744073709551616 := by simp [IntKind.wrap, IntKind.bits, IntKind.signed]
theorem totF_from : ∀ (l : List Sp) (n : Int), l.foldl (fun n s => IntKind.u64.wrap (n + sizeW s)) (IntKind.u64.wrap n) = IntKind.u64.wrap (n + sumS l)
  | [], n => by simp [sumS]
  | s :: r, n => by
    have e : IntKind.u64.wrap (IntKind.u64.wrap n + sizeW s) = IntKind.u64.wrap (n + (s.2 - s.1)) := by
      unfold sizeW
      simp only [wrap64u]
      omega
    rw [List.foldl_cons, e, totF_from r]
    congr 1
    simp [sumS]
    omega
theorem totF_sum (l : List Sp) : totF l = IntKind.u64.wrap (sumS l) := by
  have := totF_from l 0
  rw [show IntKind.u64.wrap 0 = 0 by rw [wrap64u]; rfl, Int.zero_add] at this
  exact this
theorem runs_in {m : Nat} (hm : m < 18446744073709551616) : ∀ s ∈ runsS m, (0 : Int) ≤ s.1 ∧ s.2 ≤ 0 + (64 : Nat) := fun s hs => by
  have hn := (runs_normal hm).1 s hs
  obtain ⟨t, ht, _, _⟩ := (runsS_has hm s.1).1 ⟨s, hs, Int.le_refl _, hn⟩
  obtain ⟨u, hu, hu64, _⟩ := (runsS_has hm (s.2 - 1)).1 ⟨s, hs, by omega, by omega⟩
  omega
theorem sum_runs {m : Nat} (hm : m < 18446744073709551616) : sumS (runsS m) + sumS (runsS (notN m)) = 64 := by
  rw [← measS_sum (runsS m) 0 64 (runs_normal hm) (runs_in hm), ← measS_sum (runsS (notN m)) 0 64 (runs_normal (notN_lt hm)) (runs_in (notN_lt hm))]
  rw [← measS_add (k := [(0, 64)]) 0 64 (fun x => ?_) (fun x => ?_), measS_one (0, 64) 0 (by decide) (by decide) 64]
  · rfl
  · rw [hasS_one, runsS_has hm, runsS_has (notN_lt hm)]
    constructor
    · rintro ⟨h1, h2⟩
      simp only at h1 h2
      obtain ⟨t, rfl⟩ : ∃ t : Nat, x = t := ⟨x.toNat, by omega⟩
      have ht : t < 64 := by omega
      cases hb : m.testBit t
      · exact .inr ⟨t, rfl, ht, by rw [notN_bit]; simp [ht, hb]⟩
      · exact .inl ⟨t, rfl, ht, hb⟩
    · rintro (⟨t, rfl, ht, _⟩ | ⟨t, rfl, ht, _⟩) <;> exact ⟨by simp only; omega, by simp only; omega⟩
  · rw [runsS_has hm, runsS_has (notN_lt hm)]
    rintro ⟨⟨t, rfl, ht, hb⟩, t', e, _, hb'⟩
    have : t' = t := by omega
    subst this
    rw [notN_bit, hb] at hb'
    simp [ht] at hb'
theorem total_runs {m : Nat} (hm : m < 18446744073709551616) : IntKind.u64.wrap (totF (normT (runsS m)) + totF (normT (runsS (notN m)))) = 64 := by
  rw [normT_self (runs_normal hm), normT_self (runs_normal (notN_lt hm)), totF_sum, totF_sum]
  have := sum_runs hm
  simp only [wrap64u]
  omega
theorem runsS_length {m : Nat} : (runsS m).length ≤ 64 := by
  unfold runsS
  rw [List.length_map, runsT_length]
  exact cntT_le _ _
theorem unitS_length (m k : Nat) : (unitS m k).length = cntT m k := by unfold unitS cntT; rw [List.length_map]
end Go.Proofs.YtademjmnoncieaaDoor
