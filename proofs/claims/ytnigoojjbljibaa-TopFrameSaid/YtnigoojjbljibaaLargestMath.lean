/-
  What is left to the largest rests: the mathematics.
  Conditions: weights and total that are right.
-/
import Derived.Test.YtnigoojjbljibaaGreatest
import Derived.Test.YtnigoojjbljibaaLag
set_option linter.unusedVariables false
namespace Go.Proofs.Ytnigoojjbljibaa

/-- One more to each of d 0 .. d (k - 1). -/
def ad (hs : List Int) (d : Nat → Nat) : Nat → List Int
  | 0 => hs
  | k + 1 => bump (ad hs d k) (some (d k))
theorem length_ad (hs : List Int) (d : Nat → Nat) : ∀ k, (ad hs d k).length = hs.length
  | 0 => rfl
  | k + 1 => by rw [ad, length_bump, length_ad hs d k]

/-- d and t are each other's inverse on 0 .. n - 1. -/
structure Inv (n : Nat) (d t : Nat → Nat) : Prop where
  dn : ∀ i, i < n → d i < n
  tn : ∀ i, i < n → t i < n
  td : ∀ i, t (d i) = i
  dt : ∀ i, d (t i) = i
theorem Done.inv {key : Nat → Int} {n : Nat} {d : Nat → Nat} (h : Done key n d) : ∃ t, Inv n d t := by
  obtain ⟨⟨s, t, h1, h2, h3, h4, h5⟩, _⟩ := h
  have e : ∀ i, d i = s i := h5
  refine ⟨t, fun i hi => by rw [e]; exact (h1 i (Nat.zero_le _) hi).2.1, fun i hi => (h1 i (Nat.zero_le _) hi).2.2.2, fun i => by rw [e]; exact h4 i, fun i => by rw [e]; exact h3 i⟩

theorem ad_getD {hs : List Int} {n : Nat} {d t : Nat → Nat} (hi : Inv n d t) (hl : hs.length = n) : ∀ k, k ≤ n → ∀ i, i < n → (ad hs d k).getD i 0 = hs.getD i 0 + (if t i < k then 1 else 0)
  | 0, _, i, hin => by rw [ad, if_neg (by omega)]; omega
  | k + 1, hk, i, hin => by
    have ih := ad_getD hi hl k (by omega)
    have hd := hi.dn k (by omega)
    rw [ad]
    simp only [bump]
    rw [getD_set _ _ _ _ (by rw [length_ad, hl]; exact hd), ih (d k) hd, ih i hin, hi.td k]
    by_cases e : d k = i
    · rw [if_pos e]
      have e2 : t i = k := by rw [← e, hi.td]
      rw [e, if_neg (by omega), if_pos (by omega)]; omega
    · rw [if_neg e]
      have e2 : t i ≠ k := fun h => e (by rw [← h, hi.dt])
      by_cases c : t i < k
      · rw [if_pos c, if_pos (by omega)]
      · rw [if_neg c, if_neg (by omega)]
theorem sumL_ad {hs : List Int} {n : Nat} {d t : Nat → Nat} (hi : Inv n d t) (hl : hs.length = n) : ∀ k : Nat, k ≤ n → sumL (ad hs d k) = sumL hs + k
  | 0, _ => by rw [ad]; omega
  | k + 1, hk => by
    rw [ad, sumL_bump (by rw [length_ad, hl]; exact hi.dn k (by omega)), sumL_ad hi hl k (by omega)]
    omega

theorem sum_mul_le {c : Int} : ∀ {xs ys : List Int}, xs.length = ys.length → (∀ i, i < xs.length → xs.getD i 0 ≤ c * ys.getD i 0) → sumL xs ≤ c * sumL ys
  | [], [], _, _ => by simp [sumL]
  | [], _ :: _, h, _ => by simp at h
  | _ :: _, [], h, _ => by simp at h
  | a :: l, b :: m, h, hle => by
    have h0 := hle 0 (by simp)
    have ih := sum_mul_le (c := c) (xs := l) (ys := m) (by simpa using h) (fun i hi => by have := hle (i + 1) (by simpa using hi); simpa using this)
    simp only [sumL, List.sum_cons, List.getD_cons_zero, Int.mul_add] at *
    omega

theorem quo_rest (T : Int) {ws : List Int} (hW : 0 < sumL ws) : sumL (qs T ws) * sumL ws + sumL (rs T ws) = T * sumL ws := by
  have key : ∀ l : List Int, sumL (l.map fun x => T * x / sumL ws) * sumL ws + sumL (l.map fun x => T * x % sumL ws) = T * sumL l := by
    intro l
    induction l with
    | nil => simp [sumL]
    | cons a l ih =>
      have e1 : T * a / sumL ws * sumL ws + T * a % sumL ws = T * a := Int.ediv_mul_add_emod _ _
      have s1 : sumL ((a :: l).map fun x => T * x / sumL ws) = T * a / sumL ws + sumL (l.map fun x => T * x / sumL ws) := by simp [sumL]
      have s2 : sumL ((a :: l).map fun x => T * x % sumL ws) = T * a % sumL ws + sumL (l.map fun x => T * x % sumL ws) := by simp [sumL]
      have s3 : sumL (a :: l) = a + sumL l := by simp [sumL]
      rw [s1, s2, s3, Int.add_mul, Int.mul_add]
      omega
  exact key ws

theorem rs_range (T : Int) {ws : List Int} (hW : 0 < sumL ws) (i : Nat) : 0 ≤ (rs T ws).getD i 0 ∧ (rs T ws).getD i 0 ≤ sumL ws - 1 := by
  rw [rs_getD]
  have h1 := Int.emod_nonneg (T * ws.getD i 0) (by omega : sumL ws ≠ 0)
  have h2 := Int.emod_lt_of_pos (T * ws.getD i 0) hW
  omega

/-- What is left is less than there are weights. -/
theorem left_lt {T : Int} {ws : List Int} (h : Right ws) {k : Nat} (hk : (k : Int) = T - sumL (qs T ws)) : k < ws.length := by
  have hW := h.2.2
  have hq := quo_rest T hW
  have hr := sumL_le (xs := rs T ws) (c := sumL ws - 1) (fun x hx => by
    obtain ⟨i, _, rfl⟩ := mem_getD hx
    exact (rs_range T hW i).2)
  rw [length_rs] at hr
  have e : (k : Int) * sumL ws = sumL (rs T ws) := by rw [hk, Int.sub_mul]; omega
  have hn := h.pos
  have h1 : (k : Int) * sumL ws < (ws.length : Int) * sumL ws := by
    have : (sumL ws - 1) * (ws.length : Int) = (ws.length : Int) * sumL ws - ws.length := by rw [Int.sub_mul, Int.mul_comm]; omega
    omega
  have := mul_lt_cancel hW h1
  omega

/-- Who gets one more has a rest. -/
theorem rest_pos {T : Int} {ws : List Int} (h : Right ws) {k : Nat} (hk : (k : Int) = T - sumL (qs T ws)) {d t : Nat → Nat} (hd : Done (fun i => (rs T ws).getD i 0) ws.length d) (hi : Inv ws.length d t) {j : Nat} (hj : j < k) : 0 < (rs T ws).getD (d j) 0 := by
  have hW := h.2.2
  have hkn := left_lt h hk
  apply Int.not_le.1
  intro hz
  have hz : (rs T ws).getD (d j) 0 = 0 := by have := (rs_range T hW (d j)).1; omega
  -- all behind j have no rest either
  have hle : sumL (rs T ws) ≤ (sumL ws - 1) * sumL (ad (zeros ws.length) d j) := by
    refine sum_mul_le (by rw [length_rs, length_ad]; simp [zeros]) (fun i hin => ?_)
    rw [length_rs] at hin
    rw [ad_getD hi (by simp [zeros]) j (by omega) i hin]
    have e0 : (zeros ws.length).getD i 0 = 0 := by
      simp only [zeros, List.getD_eq_getElem?_getD, List.getElem?_replicate]
      split <;> rfl
    rw [e0]
    have hr := rs_range T hW i
    by_cases c : t i < j
    · rw [if_pos c, Int.zero_add, Int.mul_one]; exact hr.2
    · rw [if_neg c, Int.zero_add, Int.mul_zero]
      rcases Nat.lt_or_ge j (t i) with h1 | h1
      · have hb := hd.2 j (t i) (Nat.zero_le _) h1 (hi.tn i hin)
        have := hb.keys
        simp only [hi.dt] at this
        omega
      · have e : t i = j := by omega
        rw [← e, hi.dt] at hz
        omega
  rw [sumL_ad hi (by simp [zeros]) j (by omega), sumL_zeros, Int.zero_add] at hle
  have hq := quo_rest T hW
  have e : (k : Int) * sumL ws = sumL (rs T ws) := by rw [hk, Int.sub_mul]; omega
  have e2 : (sumL ws - 1) * (j : Int) = (j : Int) * sumL ws - j := by rw [Int.sub_mul, Int.mul_comm]; omega
  have e3 : ((j : Int) + 1) * sumL ws ≤ (k : Int) * sumL ws := Int.mul_le_mul_of_nonneg_right (by omega) (Int.le_of_lt hW)
  rw [Int.add_mul] at e3
  omega

/-- What Largest answers. -/
def IsLargest (T : Int) (ws l : List Int) : Prop := ∃ (d : Nat → Nat) (k : Nat), (k : Int) = T - sumL (qs T ws) ∧ Done (fun i => (rs T ws).getD i 0) ws.length d ∧ l = ad (qs T ws) d k

theorem IsLargest.length {T : Int} {ws l : List Int} (h : IsLargest T ws l) : l.length = ws.length := by
  obtain ⟨d, k, _, _, rfl⟩ := h
  rw [length_ad, length_qs]
theorem IsLargest.sum {T : Int} {ws l : List Int} (h : IsLargest T ws l) (hr : Right ws) : sumL l = T := by
  obtain ⟨d, k, hk, hd, rfl⟩ := h
  obtain ⟨t, hi⟩ := hd.inv
  have := left_lt hr hk
  rw [sumL_ad hi (length_qs _ _) k (by omega)]
  omega
/-- Each has its quota, rounded down or up. -/
theorem IsLargest.near {T : Int} {ws l : List Int} (h : IsLargest T ws l) (hr : Right ws) (i : Nat) (hi : i < ws.length) : T * ws.getD i 0 - sumL ws < l.getD i 0 * sumL ws ∧ l.getD i 0 * sumL ws < T * ws.getD i 0 + sumL ws := by
  obtain ⟨d, k, hk, hd, rfl⟩ := h
  obtain ⟨t, hinv⟩ := hd.inv
  have hkn := left_lt hr hk
  have hW := hr.2.2
  rw [ad_getD hinv (length_qs _ _) k (by omega) i hi, qs_getD]
  have e1 : T * ws.getD i 0 / sumL ws * sumL ws + T * ws.getD i 0 % sumL ws = T * ws.getD i 0 := Int.ediv_mul_add_emod _ _
  have hrr := rs_range T hW i
  rw [rs_getD] at hrr
  by_cases c : t i < k
  · have hp := rest_pos hr hk hd hinv c
    rw [hinv.dt, rs_getD] at hp
    rw [if_pos c, Int.add_mul]
    omega
  · rw [if_neg c, Int.add_zero]
    omega
theorem IsLargest.bound {T : Int} {ws l : List Int} (h : IsLargest T ws l) (hr : Right ws) (hT0 : 0 ≤ T) (hT : T ≤ 1048576) (i : Nat) (hi : i < ws.length) : 0 ≤ l.getD i 0 ∧ l.getD i 0 ≤ 1048576001 := by
  obtain ⟨d, k, hk, hd, rfl⟩ := h
  obtain ⟨t, hinv⟩ := hd.inv
  have hkn := left_lt hr hk
  rw [ad_getD hinv (length_qs _ _) k (by omega) i hi, qs_getD]
  have hb := hr.getD i
  have hP0 : 0 ≤ T * ws.getD i 0 := Int.mul_nonneg hT0 hb.1
  have hP1 : T * ws.getD i 0 ≤ 1048576 * 1000 := Int.mul_le_mul hT hb.2 hb.1 (by omega)
  have e0 : 0 ≤ T * ws.getD i 0 / sumL ws := Int.ediv_nonneg hP0 (Int.le_of_lt hr.2.2)
  have e1 : T * ws.getD i 0 / sumL ws ≤ T * ws.getD i 0 := Int.ediv_le_self _ hP0
  split <;> omega
/-- Where nothing is left: the quotas. -/
theorem IsLargest.exact {T : Int} {ws l : List Int} (h : IsLargest T ws l) (he : sumL (qs T ws) = T) : l = qs T ws := by
  obtain ⟨d, k, hk, hd, rfl⟩ := h
  obtain rfl : k = 0 := by omega
  rfl
end Go.Proofs.Ytnigoojjbljibaa
