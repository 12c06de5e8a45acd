/-
  Steps one by one, and the quotas, rounded down: the steps pass there.
  Conditions: weights that are right.
-/
import Derived.Test.YtademjmnoncieaaNext
set_option linter.unusedVariables false
namespace Go.Proofs.Ytademjmnoncieaa

def zeros (n : Nat) : List Int := List.replicate n 0
def bump (hs : List Int) : Option Nat → List Int
  | none => hs
  | some i => hs.set i (hs.getD i 0 + 1)
/-- What everybody has behind n steps. -/
def gr (ws : List Int) : Nat → List Int
  | 0 => zeros ws.length
  | n + 1 => bump (gr ws n) (nextL ws (gr ws n))

theorem length_bump (hs : List Int) (o : Option Nat) : (bump hs o).length = hs.length := by cases o <;> simp [bump]
theorem length_gr (ws : List Int) : ∀ n, (gr ws n).length = ws.length
  | 0 => by simp [gr, zeros]
  | n + 1 => by rw [gr, length_bump, length_gr ws n]

theorem getD_set (xs : List Int) (i j : Nat) (x : Int) (hi : i < xs.length) : (xs.set i x).getD j 0 = if i = j then x else xs.getD j 0 := by
  simp only [List.getD_eq_getElem?_getD, List.getElem?_set]
  by_cases h : i = j
  · subst h; simp [hi]
  · simp [h]

theorem mul_lt_cancel {a b c : Int} (hc : 0 < c) (h : a * c < b * c) : a < b := Int.lt_of_mul_lt_mul_right h (Int.le_of_lt hc)

/-- 'Less than' among fractions is carried on. -/
theorem frac_chain {a p b q c r : Int} (hp : 0 < p) (hq : 0 < q) (hr : 0 < r) (h1 : a * q < b * p) (h2 : ¬ c * q < b * r) : ¬ c * p < a * r := by
  -- a/p < b/q ≤ c/r
  intro h
  have h2' : b * r ≤ c * q := Int.not_lt.1 h2
  have e1 : a * q * r < b * p * r := Int.mul_lt_mul_of_pos_right h1 hr
  have e2 : b * r * p ≤ c * q * p := Int.mul_le_mul_of_nonneg_right h2' (Int.le_of_lt hp)
  have e3 : c * p * q < a * r * q := Int.mul_lt_mul_of_pos_right h hq
  have f1 : a * q * r = a * r * q := by rw [Int.mul_assoc, Int.mul_comm q r, ← Int.mul_assoc]
  have f2 : b * p * r = b * r * p := by rw [Int.mul_assoc, Int.mul_comm p r, ← Int.mul_assoc]
  have f3 : c * q * p = c * p * q := by rw [Int.mul_assoc, Int.mul_comm q p, ← Int.mul_assoc]
  omega

theorem nextT_none {ws hs : List Int} : ∀ {k : Nat}, nextT ws hs k = none → ∀ i, i < k → takesB (ws.getD i 0) (hs.getD i 0) = false
  | 0, _, i, hi => by omega
  | k + 1, h, i, hi => by
    rw [nextT] at h
    unfold stepN at h
    by_cases ht : takesB (ws.getD k 0) (hs.getD k 0) = true
    · rw [if_pos ht] at h
      split at h
      · cases h
      · split at h <;> cases h
    · rw [if_neg ht] at h
      rcases Nat.lt_or_ge i k with h1 | h1
      · exact nextT_none h i h1
      · obtain rfl : i = k := by omega
        simpa using ht

/-- Nobody is before who is next. -/
theorem nextT_least {ws hs : List Int} : ∀ {k b : Nat}, nextT ws hs k = some b → ∀ i, i < k → takesB (ws.getD i 0) (hs.getD i 0) = true → ¬ (hs.getD i 0 + 1) * ws.getD b 0 < (hs.getD b 0 + 1) * ws.getD i 0
  | 0, b, h, i, hi, _ => by omega
  | k + 1, b, h, i, hi, hti => by
    have hlast := h
    rw [nextT] at h
    unfold stepN at h
    by_cases ht : takesB (ws.getD k 0) (hs.getD k 0) = true
    · rw [if_pos ht] at h
      cases ho : nextT ws hs k with
      | none =>
        rw [ho] at h
        injection h with h
        subst h
        rcases Nat.lt_or_ge i k with h1 | h1
        · have := nextT_none ho i h1; rw [this] at hti; cases hti
        · obtain rfl : i = k := by omega
          exact Int.lt_irrefl _
      | some c =>
        rw [ho] at h
        simp only [] at h
        have tc := (nextT_some ho).2
        obtain ⟨c1, c2, c3, c4⟩ := of_decide_eq_true tc
        obtain ⟨k1, k2, k3, k4⟩ := of_decide_eq_true ht
        obtain ⟨i1, i2, i3, i4⟩ := of_decide_eq_true hti
        by_cases hl : lessF ws hs k c = true
        · rw [if_pos hl] at h
          injection h with h
          subst h
          have hl := of_decide_eq_true hl
          rcases Nat.lt_or_ge i k with h1 | h1
          · have := nextT_least ho i h1 hti
            exact frac_chain k1 c1 i1 hl this
          · obtain rfl : i = k := by omega
            exact Int.lt_irrefl _
        · rw [if_neg hl] at h
          injection h with h
          subst h
          rcases Nat.lt_or_ge i k with h1 | h1
          · exact nextT_least ho i h1 hti
          · obtain rfl : i = k := by omega
            intro hh
            exact hl (decide_eq_true hh)
    · rw [if_neg ht] at h
      rcases Nat.lt_or_ge i k with h1 | h1
      · exact nextT_least h i h1 hti
      · obtain rfl : i = k := by omega
        exact absurd hti ht

theorem mem_getD {xs : List Int} {x : Int} (h : x ∈ xs) : ∃ i, i < xs.length ∧ xs.getD i 0 = x := by
  obtain ⟨i, hi, rfl⟩ := List.getElem_of_mem h
  exact ⟨i, hi, by rw [List.getD_eq_getElem?_getD, List.getElem?_eq_getElem hi]; rfl⟩
theorem Right.getD {ws : List Int} (h : Right ws) (i : Nat) : 0 ≤ ws.getD i 0 ∧ ws.getD i 0 ≤ 1000 := by
  rcases Nat.lt_or_ge i ws.length with hi | hi
  · obtain ⟨x, hx⟩ := ex_at hi
    rw [getD_of hx]
    exact h.at hx
  · rw [List.getD_eq_getElem?_getD, List.getElem?_eq_none hi]; decide

theorem sum_pos_some : ∀ {ws : List Int}, 0 < sumL ws → ∃ x ∈ ws, 0 < x
  | [], h => by simp [sumL] at h
  | a :: l, h => by
    by_cases ha : 0 < a
    · exact ⟨a, by simp, ha⟩
    · have : 0 < sumL l := by unfold sumL at *; rw [List.sum_cons] at h; omega
      obtain ⟨x, hx, h0⟩ := sum_pos_some this
      exact ⟨x, by simp [hx], h0⟩

/-- Everybody has from 0 to n. -/
def Fits (hs : List Int) (n : Int) : Prop := ∀ i, 0 ≤ hs.getD i 0 ∧ hs.getD i 0 ≤ n
theorem next_there {ws hs : List Int} (h : Right ws) (hl : hs.length = ws.length) (hf : Fits hs 1099511627775) : ∃ b, nextL ws hs = some b ∧ b < ws.length ∧ 0 < ws.getD b 0 := by
  cases ho : nextL ws hs with
  | some b =>
    have := nextT_some ho
    obtain ⟨h1, _⟩ := of_decide_eq_true this.2
    exact ⟨b, rfl, by omega, h1⟩
  | none =>
    exfalso
    obtain ⟨x, hx, h0⟩ := sum_pos_some h.2.2
    obtain ⟨i, hi, rfl⟩ := mem_getD hx
    have := nextT_none ho i (by omega)
    have h1 := h.getD i
    have h2 := hf i
    have ht : takesB (ws.getD i 0) (hs.getD i 0) = true := decide_eq_true ⟨h0, h1.2, h2.1, by omega⟩
    rw [ht] at this
    cases this

theorem fits_bump {hs : List Int} {n : Int} {o : Option Nat} (h : Fits hs n) (h0 : 0 ≤ n) : Fits (bump hs o) (n + 1) := by
  intro i
  cases o with
  | none => have := h i; simp only [bump]; omega
  | some b =>
    simp only [bump]
    by_cases hb : b < hs.length
    · rw [getD_set _ _ _ _ hb]
      have h1 := h i
      have h2 := h b
      split <;> omega
    · rw [List.set_eq_of_length_le (by omega)]
      have := h i
      omega
theorem fits_gr (ws : List Int) : ∀ n : Nat, Fits (gr ws n) n
  | 0 => fun i => by
    have : (gr ws 0).getD i 0 = 0 := by
      simp only [gr, zeros, List.getD_eq_getElem?_getD, List.getElem?_replicate]
      split <;> rfl
    rw [this]; omega
  | n + 1 => by
    have := fits_bump (o := nextL ws (gr ws n)) (fits_gr ws n) (by omega)
    simpa [gr] using this

theorem sumL_set {hs : List Int} : ∀ {i : Nat} (x : Int), i < hs.length → sumL (hs.set i x) = sumL hs - hs.getD i 0 + x := by
  induction hs with
  | nil => intro i x h; simp at h
  | cons a l ih =>
    intro i x h
    cases i with
    | zero => simp only [sumL, List.set_cons_zero, List.sum_cons, List.getD_cons_zero]; omega
    | succ i =>
      have := ih (i := i) x (by simpa using h)
      simp only [sumL, List.set_cons_succ, List.sum_cons, List.getD_cons_succ] at this ⊢
      omega
theorem sumL_bump {hs : List Int} {b : Nat} (h : b < hs.length) : sumL (bump hs (some b)) = sumL hs + 1 := by
  simp only [bump]
  rw [sumL_set _ h]
  omega
theorem sumL_zeros (n : Nat) : sumL (zeros n) = 0 := by
  unfold sumL zeros
  induction n with
  | zero => rfl
  | succ n ih => rw [List.replicate_succ, List.sum_cons, ih]; rfl
theorem next_gr {ws : List Int} (h : Right ws) {n : Nat} (hn : n < 1099511627776) : ∃ b, nextL ws (gr ws n) = some b ∧ b < ws.length ∧ 0 < ws.getD b 0 :=
  next_there h (length_gr ws n) (fun i => by have := fits_gr ws n i; omega)
theorem sumL_gr {ws : List Int} (h : Right ws) : ∀ n : Nat, n ≤ 1099511627776 → sumL (gr ws n) = n
  | 0, _ => sumL_zeros _
  | n + 1, hn => by
    obtain ⟨b, hb, hlt, _⟩ := next_gr h (n := n) (by omega)
    rw [gr, hb, sumL_bump (by rw [length_gr]; exact hlt), sumL_gr h n (by omega)]
    omega

/-- The quotas, rounded down; and their rests. -/
def qs (T : Int) (ws : List Int) : List Int := ws.map fun x => T * x / sumL ws
def rs (T : Int) (ws : List Int) : List Int := ws.map fun x => T * x % sumL ws
theorem length_qs (T : Int) (ws : List Int) : (qs T ws).length = ws.length := by simp [qs]
theorem length_rs (T : Int) (ws : List Int) : (rs T ws).length = ws.length := by simp [rs]
theorem qs_getD (T : Int) (ws : List Int) (i : Nat) : (qs T ws).getD i 0 = T * ws.getD i 0 / sumL ws := by
  simp only [qs, List.getD_eq_getElem?_getD, List.getElem?_map]
  cases ws[i]? <;> simp
theorem rs_getD (T : Int) (ws : List Int) (i : Nat) : (rs T ws).getD i 0 = T * ws.getD i 0 % sumL ws := by
  simp only [rs, List.getD_eq_getElem?_getD, List.getElem?_map]
  cases ws[i]? <;> simp

/-- Lists of one length, everywhere no more, and the same sum: alike. -/
theorem eq_of_le : ∀ {xs ys : List Int}, xs.length = ys.length → (∀ i, xs.getD i 0 ≤ ys.getD i 0) → sumL ys ≤ sumL xs → xs = ys
  | [], [], _, _, _ => rfl
  | [], _ :: _, h, _, _ => by simp at h
  | _ :: _, [], h, _, _ => by simp at h
  | a :: l, b :: m, h, hle, hs => by
    have h0 := hle 0
    simp only [List.getD_cons_zero] at h0
    have ht : ∀ i, l.getD i 0 ≤ m.getD i 0 := fun i => by have := hle (i + 1); simpa using this
    have hl : l.length = m.length := by simpa using h
    have hsum : ∀ {u v : List Int}, u.length = v.length → (∀ i, u.getD i 0 ≤ v.getD i 0) → sumL u ≤ sumL v := by
      intro u
      induction u with
      | nil => intro v h _; cases v with | nil => exact Int.le_refl _ | cons _ _ => simp at h
      | cons c u ih =>
        intro v h hle
        cases v with
        | nil => simp at h
        | cons d v =>
          have h0 := hle 0
          have := ih (v := v) (by simpa using h) (fun i => by have := hle (i + 1); simpa using this)
          simp only [sumL, List.sum_cons, List.getD_cons_zero] at *
          omega
    have := hsum hl ht
    simp only [sumL, List.sum_cons] at hs this
    have e : a = b := by omega
    have := eq_of_le hl ht (by simp only [sumL]; omega)
    rw [e, this]

theorem lt_somewhere {xs ys : List Int} (h : xs.length = ys.length) (hle : ∀ i, xs.getD i 0 ≤ ys.getD i 0) (hs : sumL xs < sumL ys) : ∃ j, xs.getD j 0 < ys.getD j 0 := by
  apply Classical.byContradiction
  intro hn
  have hge : ∀ i, ys.getD i 0 ≤ xs.getD i 0 := fun i => Int.not_lt.1 fun hl => hn ⟨i, hl⟩
  have : xs = ys := by
    apply List.ext_getElem? 
    intro i
    rcases Nat.lt_or_ge i xs.length with hi | hi
    · obtain ⟨x, hx⟩ := ex_at hi
      obtain ⟨y, hy⟩ := ex_at (xs := ys) (k := i) (by omega)
      have h1 := hle i
      have h2 := hge i
      rw [getD_of hx, getD_of hy] at h1 h2
      rw [hx, hy, Int.le_antisymm h1 h2]
    · rw [List.getElem?_eq_none hi, List.getElem?_eq_none (by omega)]
  rw [this] at hs
  exact absurd hs (Int.lt_irrefl _)

theorem quota_core {T W wi wj gi gj : Int} (hW : 0 < W) (hwi : 0 < wi) (hwj : 0 < wj) (hgi : T * wi / W ≤ gi) (hgj : gj + 1 ≤ T * wj / W) : (gj + 1) * wi < (gi + 1) * wj := by
  have a1 : T * wi < (gi + 1) * W := by
    have : T * wi < (T * wi / W + 1) * W := Int.lt_ediv_add_one_mul_self _ hW
    have : (T * wi / W + 1) * W ≤ (gi + 1) * W := Int.mul_le_mul_of_nonneg_right (by omega) (Int.le_of_lt hW)
    omega
  have a2 : (gj + 1) * W ≤ T * wj := by
    have : T * wj / W * W ≤ T * wj := Int.ediv_mul_le _ (by omega)
    have : (gj + 1) * W ≤ (T * wj / W) * W := Int.mul_le_mul_of_nonneg_right hgj (Int.le_of_lt hW)
    omega
  have b1 : T * wi * wj < (gi + 1) * W * wj := Int.mul_lt_mul_of_pos_right a1 hwj
  have b2 : (gj + 1) * W * wi ≤ T * wj * wi := Int.mul_le_mul_of_nonneg_right a2 (Int.le_of_lt hwi)
  have f1 : T * wj * wi = T * wi * wj := by rw [Int.mul_assoc, Int.mul_comm wj wi, ← Int.mul_assoc]
  have f2 : (gi + 1) * W * wj = (gi + 1) * wj * W := by rw [Int.mul_assoc, Int.mul_comm W wj, ← Int.mul_assoc]
  have f3 : (gj + 1) * W * wi = (gj + 1) * wi * W := by rw [Int.mul_assoc, Int.mul_comm W wi, ← Int.mul_assoc]
  exact mul_lt_cancel hW (by omega)

theorem qs_nonneg {T : Int} {ws : List Int} (h : Right ws) (hT : 0 ≤ T) (i : Nat) : 0 ≤ (qs T ws).getD i 0 := by
  rw [qs_getD]
  exact Int.ediv_nonneg (Int.mul_nonneg hT (h.getD i).1) (Int.le_of_lt h.2.2)

theorem gr_below {T : Int} {ws : List Int} (h : Right ws) (hT : 0 ≤ T) : ∀ n : Nat, (n : Int) ≤ sumL (qs T ws) → n ≤ 1099511627776 → ∀ i, (gr ws n).getD i 0 ≤ (qs T ws).getD i 0
  | 0, _, _ => fun i => by
    have : (gr ws 0).getD i 0 = 0 := by
      simp only [gr, zeros, List.getD_eq_getElem?_getD, List.getElem?_replicate]
      split <;> rfl
    rw [this]
    exact qs_nonneg h hT i
  | n + 1, hn, hm => by
    have ih := gr_below h hT n (by omega) (by omega)
    obtain ⟨b, hb, hlt, hwb⟩ := next_gr h (n := n) (by omega)
    obtain ⟨j, hj⟩ := lt_somewhere (by rw [length_gr, length_qs]) ih (by rw [sumL_gr h n (by omega)]; omega)
    have hwj : 0 < ws.getD j 0 := by
      have h1 := (h.getD j).1
      rcases Int.lt_or_eq_of_le h1 with h2 | h2
      · exact h2
      · rw [qs_getD, ← h2, Int.mul_zero, Int.zero_ediv] at hj
        have := (fits_gr ws n j).1
        omega
    have hjl : j < ws.length := by
      rcases Nat.lt_or_ge j ws.length with h1 | h1
      · exact h1
      · rw [List.getD_eq_getElem?_getD, List.getElem?_eq_none h1] at hwj
        exact absurd hwj (by decide)
    have key : (gr ws n).getD b 0 < (qs T ws).getD b 0 := by
      apply Int.not_le.1
      intro hge
      rw [qs_getD] at hge hj
      have hq := quota_core (gj := (gr ws n).getD j 0) h.2.2 hwb hwj hge (by omega)
      have hf := fits_gr ws n j
      have ht : takesB (ws.getD j 0) ((gr ws n).getD j 0) = true := decide_eq_true ⟨hwj, (h.getD j).2, hf.1, by omega⟩
      exact nextT_least hb j (by rw [length_gr]; omega) ht hq
    intro i
    rw [gr, hb]
    simp only [bump]
    rw [getD_set _ _ _ _ (by rw [length_gr]; exact hlt)]
    split
    · rename_i e; subst e; omega
    · exact ih i

theorem sumL_qs {T : Int} {ws : List Int} (h : Right ws) (hT : 0 ≤ T) : 0 ≤ sumL (qs T ws) ∧ sumL (qs T ws) ≤ T := by
  have hW := h.2.2
  have key : ∀ l : List Int, (∀ x ∈ l, 0 ≤ x) → 0 ≤ sumL (l.map fun x => T * x / sumL ws) ∧ sumL (l.map fun x => T * x / sumL ws) * sumL ws ≤ T * sumL l := by
    intro l
    induction l with
    | nil => intro _; simp [sumL]
    | cons a l ih =>
      intro hl
      have ⟨i1, i2⟩ := ih fun x hx => hl x (by simp [hx])
      have ha := hl a (by simp)
      have e1 : T * a / sumL ws * sumL ws ≤ T * a := Int.ediv_mul_le _ (by omega)
      have e0 : 0 ≤ T * a / sumL ws := Int.ediv_nonneg (Int.mul_nonneg hT ha) (Int.le_of_lt hW)
      have s1 : sumL ((a :: l).map fun x => T * x / sumL ws) = T * a / sumL ws + sumL (l.map fun x => T * x / sumL ws) := by simp [sumL]
      have s2 : sumL (a :: l) = a + sumL l := by simp [sumL]
      rw [s1, s2, Int.add_mul, Int.mul_add]
      exact ⟨by omega, by omega⟩
  have ⟨k1, k2⟩ := key ws fun x hx => (h.2.1 x hx).1
  refine ⟨k1, ?_⟩
  exact Int.le_of_mul_le_mul_right k2 hW

/-- The steps pass at the quotas, rounded down. -/
theorem gr_qs {T : Int} {ws : List Int} (h : Right ws) (hT : 0 ≤ T) (hT2 : T ≤ 1048576) {n : Nat} (hn : (n : Int) = sumL (qs T ws)) : gr ws n = qs T ws := by
  have := sumL_qs h hT
  exact eq_of_le (by rw [length_gr, length_qs]) (gr_below h hT n (by omega) (by omega)) (by rw [sumL_gr h n (by omega)]; omega)
end Go.Proofs.Ytademjmnoncieaa
