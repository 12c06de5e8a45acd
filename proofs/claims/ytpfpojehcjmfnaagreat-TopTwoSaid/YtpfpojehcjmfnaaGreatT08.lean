/-
  Wants along the chain, one behind the other; why they don't go.
  Conditions: none.
-/
import Derived.Test.YtpfpojehcjmfnaaGreatT07

/-
  A set that is turned; ticks from one on, round; all ticks: the document's plain answers.
  Conditions: the numbers are of their kinds.
-/
set_option linter.unusedVariables false
namespace Go.Proofs.YtpfpojehcjmfnaaGreat
open Go.RowKit

theorem laterN_eq {f l i : Nat} (hl : l < f) (hi : i < f) : laterN f l i = if i + l < f then i + l else i + l - f := by
  unfold laterN
  split
  · exact Nat.mod_eq_of_lt ‹_›
  · rw [Nat.mod_eq_sub_mod (by omega), Nat.mod_eq_of_lt (by omega)]
theorem later_lt {f l i : Nat} (hl : l < f) (hi : i < f) : laterN f l i < f := by
  rw [laterN_eq hl hi]; split <;> omega
theorem later_src {f l i j : Nat} (hl : l < f) (hi : i < f) : laterN f l i = j ↔ j < f ∧ srcN f l j = i := by
  rw [laterN_eq hl hi]
  unfold srcN
  split <;> split <;> omega
theorem src_lt {f l j : Nat} (hl : l < f) (hj : j < f) : srcN f l j < f := by
  unfold srcN
  split <;> omega

def turnS (f m l i : Nat) : Nat := setP (fun j => decide (j < f) && m.testBit (srcN f l j) && decide (srcN f l j < i))
theorem turnS_yes {f m l i : Nat} (hl : l < f) (hi : i < f) (hf : f ≤ 64) (hb : m.testBit i = true) : withI (turnS f m l i) (laterN f l i : Int) = turnS f m l (i + 1) := by
  have hlt := later_lt hl hi
  rw [withI_nat (by omega)]
  unfold turnS
  rw [withN_setP _ (by omega)]
  apply setP_congr
  intro j _
  have e := later_src (j := j) hl hi
  by_cases hs : j < f ∧ srcN f l j = i
  · have h1 := e.2 hs
    simp [h1, hs.1, hs.2, hb]
  · have h1 : ¬ laterN f l i = j := fun h => hs (e.1 h)
    by_cases hj : j < f
    · have : srcN f l j ≠ i := fun h => hs ⟨hj, h⟩
      have d : decide (srcN f l j < i + 1) = decide (srcN f l j < i) := by simp; omega
      simp [h1, d]
    · simp [h1, hj]
theorem round_zero (f l : Nat) : roundN f 0 l = 0 := setP_zero (fun j _ => by simp)
theorem round_yes {f l i : Nat} (hl : l < f) (hi : i < f) (hf : f ≤ 64) : withI (roundN f i l) (laterN f l i : Int) = roundN f (i + 1) l := by
  have hlt := later_lt hl hi
  rw [withI_nat (by omega)]
  unfold roundN
  rw [withN_setP _ (by omega)]
  apply setP_congr
  intro j _
  have e := later_src (j := j) hl hi
  by_cases hs : j < f ∧ srcN f l j = i
  · have h1 := e.2 hs
    simp [h1, hs.1, hs.2]
  · have h1 : ¬ laterN f l i = j := fun h => hs (e.1 h)
    by_cases hj : j < f
    · have : srcN f l j ≠ i := fun h => hs ⟨hj, h⟩
      have d : decide (srcN f l j < i + 1) = decide (srcN f l j < i) := by simp; omega
      simp [h1, d]
    · simp [h1, hj]
theorem round_lt (f n l : Nat) : roundN f n l < 18446744073709551616 := setP_lt _

end Go.Proofs.YtpfpojehcjmfnaaGreat

/-
  Numbers alone: ticks that are given out one behind the other, round.
  Conditions: those that each statement lists.
-/
set_option linter.unusedVariables false
namespace Go.Proofs.YtpfpojehcjmfnaaGreat

theorem cntT_with {m t : Nat} (h : m.testBit t = false) : ∀ k, cntT (withN m t) k = cntT m k + (decide (t < k)).toNat
  | 0 => by simp [cntT_zero]
  | k + 1 => by
    rw [cntT_succ, cntT_succ, cntT_with h k, withN_bit]
    by_cases e : t = k
    · subst e
      simp [h]
    · have : decide (t < k + 1) = decide (t < k) := decide_eq_decide.2 (by omega)
      rw [this]
      simp [e]
      omega
theorem cnt_with {m t : Nat} (h : m.testBit t = false) (ht : t < 64) : cnt (withN m t) = cnt m + 1 := by
  unfold cnt
  rw [cntT_with h, decide_eq_true ht]
  rfl
theorem cnt_zero : cnt 0 = 0 := cntT_zero_of (fun j _ => Nat.zero_testBit j)

theorem round_bit (f n l j : Nat) (hf : f ≤ 64) : (roundN f n l).testBit j = (decide (j < f) && decide (srcN f l j < n)) := by
  unfold roundN
  rw [setP_bit]
  by_cases hj : j < f
  · have : j < 64 := by omega
    simp [this]
  · simp [hj]
theorem cnt_round {f l : Nat} (hl : l < f) (hf : f ≤ 64) : ∀ n, n ≤ f → cnt (roundN f n l) = n
  | 0, _ => by rw [round_zero, cnt_zero]
  | n + 1, h => by
    have ih := cnt_round hl hf n (by omega)
    have hi : n < f := by omega
    have hlt := later_lt hl hi
    have hb : (roundN f n l).testBit (laterN f l n) = false := by
      rw [round_bit f n l _ hf, ((later_src hl hi).1 rfl).2]
      simp
    rw [← round_yes hl hi hf, withI_nat (by omega), cnt_with hb (by omega), ih]

theorem src_cases (f l j : Nat) : (l ≤ j ∧ srcN f l j = j - l) ∨ (j < l ∧ srcN f l j = j + f - l) := by
  unfold srcN
  split <;> omega
theorem src_add {f l u j : Nat} (hl : l < f) (hu : u ≤ f) (hj : j < f) : srcN f ((l + u) % f) j = if u ≤ srcN f l j then srcN f l j - u else srcN f l j + f - u := by
  have hv : (l + u < f ∧ (l + u) % f = l + u) ∨ (f ≤ l + u ∧ (l + u) % f = l + u - f) := by
    rcases Nat.lt_or_ge (l + u) f with h | h
    · exact .inl ⟨h, Nat.mod_eq_of_lt h⟩
    · exact .inr ⟨h, by rw [Nat.mod_eq_sub_mod h, Nat.mod_eq_of_lt (by omega)]⟩
  generalize (l + u) % f = v at *
  have h1 := src_cases f l j
  have h2 := src_cases f v j
  generalize srcN f l j = s at *
  generalize srcN f v j = x at *
  split <;> omega

end Go.Proofs.YtpfpojehcjmfnaaGreat

/-
  Units split along the cores, over lists of places: what each core gives, the pieces, one unit more in a right plan, all of them one behind the other.
  Conditions: none.
-/
set_option linter.unusedVariables false
namespace Go.Proofs.YtpfpojehcjmfnaaGreat

def takeN (r : Nat → Nat) (s c : Nat) : Nat := min (r c) (s - sumTo r c)
/-- How much was given ahead of a core. -/
def loN (r : Nat → Nat) (s c : Nat) : Nat := min s (sumTo r c)
theorem lo_succ (r : Nat → Nat) (s c : Nat) : loN r s (c + 1) = loN r s c + takeN r s c := by unfold loN takeN; rw [sumTo]; omega
theorem lo_zero (r : Nat → Nat) (s : Nat) : loN r s 0 = 0 := by unfold loN; rw [sumTo]; omega
theorem take_sum (r : Nat → Nat) (s : Nat) : ∀ k : Nat, sumTo (takeN r s) k = loN r s k
  | 0 => (lo_zero r s).symm
  | k + 1 => by rw [sumTo, take_sum r s k, lo_succ]
theorem lo_le (r : Nat → Nat) (s c : Nat) : loN r s c ≤ s := Nat.min_le_left _ _
theorem sumTo_mono (r : Nat → Nat) {a b : Nat} (h : a ≤ b) : sumTo r a ≤ sumTo r b := by
  induction b with
  | zero => rw [Nat.le_zero.1 h]; exact Nat.le_refl _
  | succ b ih =>
    rcases Nat.lt_or_ge a (b + 1) with h1 | h1
    · rw [sumTo]
      have := ih (by omega)
      omega
    · rw [Nat.le_antisymm h h1]; exact Nat.le_refl _
theorem sumTo_two {g : Nat → Nat} : ∀ {k i j : Nat}, i < j → j < k → g i + g j ≤ sumTo g k
  | 0, i, j, _, h => absurd h (Nat.not_lt_zero _)
  | k + 1, i, j, hij, h => by
    rw [sumTo]
    by_cases e : j = k
    · subst e
      have h1 := sumTo_mono g (a := i + 1) (b := j) hij
      rw [sumTo] at h1
      omega
    · have := sumTo_two (g := g) hij (show j < k by omega)
      omega
/-- A core all of whose room was given. -/
theorem take_all {r : Nat → Nat} {s c : Nat} (h : sumTo r (c + 1) ≤ s) : takeN r s c = r c := by
  rw [sumTo] at h
  unfold takeN
  omega

def curN (r : Nat → Nat) : Nat := ((List.range 15).find? fun c => !decide (r c = 0)).getD 15
theorem cur_some {r : Nat → Nat} : curN r ≤ 15 ∧ (∀ c, c < curN r → r c = 0) ∧ (curN r < 15 → r (curN r) ≠ 0) := by
  unfold curN
  cases h : (List.range 15).find? fun c => !decide (r c = 0) with
  | none =>
    rw [List.find?_range_eq_none] at h
    refine ⟨Nat.le_refl _, fun c hc => ?_, fun hc => absurd hc (Nat.lt_irrefl _)⟩
    have := h c hc
    simpa using this
  | some k =>
    rw [List.find?_range_eq_some] at h
    obtain ⟨h1, h2, h3⟩ := h
    refine ⟨by have := List.mem_range.1 h2; show k ≤ 15; omega, fun c hc => ?_, fun _ => ?_⟩
    · have := h3 c hc
      simpa using this
    · show r k ≠ 0
      simpa using h1
theorem cur_of {r : Nat → Nat} {c : Nat} (hc : c < 16) (h : r c ≠ 0) (h0 : ∀ i, i < c → r i = 0) : curN r = c := by
  obtain ⟨h1, h2, h3⟩ := cur_some (r := r)
  rcases Nat.lt_trichotomy (curN r) c with hlt | he | hlt
  · exact absurd (h0 _ hlt) (h3 (by omega))
  · exact he
  · exact absurd (h2 c hlt) h
theorem sumTo_cur {r : Nat → Nat} : ∀ {c : Nat}, (∀ i, i < c → r i = 0) → sumTo r c = 0 := fun h => sumTo_zero h

def pcAt (n a : Nat) (r : Nat → Nat) (s c : Nat) : Pc := ⟨(c : Int), roundN n (takeN r s c) ((a + loN r s c) % n)⟩
def pcsC (n a : Nat) (r : Nat → Nat) (s : Nat) : Nat → List Pc
  | 0 => []
  | k + 1 => pcsC n a r s k ++ (if takeN r s k = 0 then [] else [pcAt n a r s k])
theorem pcAt_bit {n a s c j : Nat} {r : Nat → Nat} (ha : a < n) (hn : n ≤ 64) (hs : s ≤ n) : (pcAt n a r s c).t.testBit j = decide (j < n ∧ loN r s c ≤ srcN n a j ∧ srcN n a j < loN r s (c + 1)) := by
  unfold pcAt
  show (roundN _ _ _).testBit j = _
  rw [round_bit _ _ _ _ hn]
  by_cases hj : j < n
  · have h1 := src_add ha (Nat.le_trans (lo_le r s c) hs) hj
    have h2 := lo_succ r s c
    have h3 := lo_le r s (c + 1)
    have h4 := src_lt ha hj
    rw [decide_eq_true hj, Bool.true_and]
    refine decide_eq_decide.2 ?_
    rw [h1]
    split <;> omega
  · rw [decide_eq_false hj, Bool.false_and, decide_eq_false fun h => hj h.1]
theorem pcs_any {n a s : Nat} {r : Nat → Nat} (ha : a < n) (hn : n ≤ 64) (hs : s ≤ n) (j : Nat) : ∀ k : Nat, nAny (pcsC n a r s k) j = (decide (j < n ∧ srcN n a j < loN r s k)).toNat
  | 0 => by
    rw [decide_eq_false (by rw [lo_zero]; omega)]
    rfl
  | k + 1 => by
    rw [pcsC, nAny_append, pcs_any ha hn hs j k]
    have h2 := lo_succ r s k
    by_cases h0 : takeN r s k = 0
    · rw [if_pos h0, show loN r s (k + 1) = loN r s k by omega]
      rfl
    · rw [if_neg h0, show nAny [pcAt n a r s k] j = ((pcAt n a r s k).t.testBit j).toNat by rw [show [pcAt n a r s k] = [] ++ [pcAt n a r s k] from rfl, nAny_snoc]; show 0 + _ = _; omega, pcAt_bit ha hn hs]
      by_cases hj : j < n
      · by_cases h3 : srcN n a j < loN r s k
        · rw [decide_eq_true ⟨hj, h3⟩, decide_eq_false (by omega), decide_eq_true ⟨hj, by omega⟩]
          rfl
        · rw [decide_eq_false (fun h => h3 h.2)]
          by_cases h4 : srcN n a j < loN r s (k + 1)
          · rw [decide_eq_true ⟨hj, by omega, h4⟩, decide_eq_true ⟨hj, h4⟩]
            rfl
          · rw [decide_eq_false (fun h => h4 h.2.2), decide_eq_false (fun h => h4 h.2)]
            rfl
      · rw [decide_eq_false (fun h => hj h.1), decide_eq_false (fun h => hj h.1), decide_eq_false (fun h => hj h.1)]
        rfl
theorem pcs_on {n a s : Nat} {r : Nat → Nat} (ha : a < n) (hn : n ≤ 64) (hs : s ≤ n) (c j : Nat) : ∀ k : Nat, nOn (pcsC n a r s k) (c : Int) j = (decide (c < k ∧ j < n ∧ loN r s c ≤ srcN n a j ∧ srcN n a j < loN r s (c + 1))).toNat
  | 0 => by
    rw [decide_eq_false (by omega)]
    rfl
  | k + 1 => by
    rw [pcsC, nOn_append, pcs_on ha hn hs c j k]
    have h2 := lo_succ r s k
    by_cases h0 : takeN r s k = 0
    · rw [if_pos h0]
      show _ + 0 = _
      rw [Nat.add_zero]
      congr 1
      refine decide_eq_decide.2 ⟨fun h => ⟨by omega, h.2⟩, fun h => ⟨?_, h.2⟩⟩
      rcases Nat.lt_or_ge c k with h3 | h3
      · exact h3
      · have : c = k := by omega
        subst this
        omega
    · rw [if_neg h0, show nOn [pcAt n a r s k] (c : Int) j = (onB (c : Int) j (pcAt n a r s k)).toNat by rw [show [pcAt n a r s k] = [] ++ [pcAt n a r s k] from rfl, nOn_snoc, nOn_nil]; omega]
      unfold onB
      rw [pcAt_bit ha hn hs]
      have hc : (pcAt n a r s k).c = (k : Int) := rfl
      rw [hc]
      by_cases e : c = k
      · subst e
        rw [decide_eq_false (by omega), decide_eq_true rfl, Bool.true_and]
        show 0 + _ = _
        rw [Nat.zero_add]
        congr 1
        exact decide_eq_decide.2 ⟨fun h => ⟨by omega, h⟩, fun h => h.2⟩
      · rw [decide_eq_false (show ¬ (k : Int) = (c : Int) by omega), Bool.false_and]
        show _ + 0 = _
        rw [Nat.add_zero]
        congr 1
        exact decide_eq_decide.2 ⟨fun h => ⟨by omega, h.2⟩, fun h => ⟨by omega, h.2⟩⟩
theorem pcs_on_out {n a s : Nat} {r : Nat → Nat} {c : Int} (h : ¬ (0 ≤ c ∧ c < 16)) (j : Nat) : ∀ k : Nat, k ≤ 16 → nOn (pcsC n a r s k) c j = 0
  | 0, _ => rfl
  | k + 1, hk => by
    rw [pcsC, nOn_append, pcs_on_out h j k (by omega)]
    split
    · rfl
    · rw [show nOn [pcAt n a r s k] c j = (onB c j (pcAt n a r s k)).toNat by rw [show [pcAt n a r s k] = [] ++ [pcAt n a r s k] from rfl, nOn_snoc, nOn_nil]; omega]
      unfold onB
      rw [decide_eq_false (show ¬ (pcAt n a r s k).c = c by show ¬ (k : Int) = c; omega)]
      rfl
/-- As many ticks as are asked for. -/
theorem pcs_count {n a s : Nat} {r : Nat → Nat} (ha : a < n) (hn : n ≤ 64) (hs : s ≤ n) {k : Nat} (hk : s ≤ sumTo r k) : sumTo (nAny (pcsC n a r s k)) 64 = s := by
  have h1 := cnt_round ha hn s hs
  rw [cnt_sum] at h1
  refine Eq.trans ?_ h1
  refine sumTo_congr fun j _ => ?_
  rw [pcs_any ha hn hs, round_bit _ _ _ _ hn, show loN r s k = s by unfold loN; omega, ← Bool.decide_and]
theorem pcs_core {n a s : Nat} {r : Nat → Nat} (ha : a < n) (hn : n ≤ 64) (hs : s ≤ n) {c k : Nat} (hc : c < k) : sumTo (nOn (pcsC n a r s k) (c : Int)) 64 = takeN r s c := by
  have h2 := lo_succ r s c
  have h3 := lo_le r s (c + 1)
  have h1 := cnt_round (f := n) (l := (a + loN r s c) % n) (Nat.mod_lt _ (by omega)) hn (takeN r s c) (by omega)
  rw [cnt_sum] at h1
  refine Eq.trans ?_ h1
  refine sumTo_congr fun j _ => ?_
  rw [pcs_on ha hn hs]
  have h4 := pcAt_bit (c := c) (j := j) (r := r) ha hn hs
  unfold pcAt at h4
  rw [h4]
  congr 1
  exact decide_eq_decide.2 ⟨fun h => h.2, fun h => ⟨hc, h⟩⟩
/-- Each piece is one of a core that gives something. -/
theorem pcs_mem {n a s : Nat} {r : Nat → Nat} {y : Pc} : ∀ {k : Nat}, y ∈ pcsC n a r s k → ∃ c, c < k ∧ takeN r s c ≠ 0 ∧ y = pcAt n a r s c
  | 0, h => by cases h
  | k + 1, h => by
    rw [pcsC, List.mem_append] at h
    rcases h with h | h
    · obtain ⟨c, h1, h2⟩ := pcs_mem h
      exact ⟨c, by omega, h2⟩
    · split at h
      · cases h
      · rw [List.mem_singleton.1 h]
        exact ⟨k, by omega, by assumption, rfl⟩
theorem pcs_last {n a s : Nat} {r : Nat → Nat} (k : Nat) : ((pcsC n a r s k).getLast?.map Pc.c).getD (-1) < (k : Int) := by
  cases h : (pcsC n a r s k).getLast? with
  | none => show (-1 : Int) < (k : Int); omega
  | some y =>
    obtain ⟨c, hc, _, rfl⟩ := pcs_mem (List.mem_of_getLast? h)
    show (c : Int) < (k : Int)
    omega
theorem pcs_rise {m n a s : Nat} {r : Nat → Nat} (ha : a < n) (hn : n ≤ 64) (hs : s ≤ n) (hm : ∀ c, c < 16 → r c ≠ 0 → m.testBit c = true) : ∀ k : Nat, k ≤ 16 → Rise m (-1) (pcsC n a r s k)
  | 0, _ => trivial
  | k + 1, hk => by
    rw [pcsC]
    split
    · rw [List.append_nil]
      exact pcs_rise ha hn hs hm k (by omega)
    · rename_i h0
      have h2 := lo_succ r s k
      have h3 := lo_le r s (k + 1)
      refine (rise_snoc _ _).2 ⟨pcs_rise ha hn hs hm k (by omega), ?_, pcs_last k, fun e => ?_⟩
      · show hasC m (k : Int) = true
        rw [hasC_nat (by omega)]
        exact hm k (by omega) (fun e => h0 (by unfold takeN; omega))
      · have h1 := cnt_round (f := n) (l := (a + loN r s k) % n) (Nat.mod_lt _ (by omega)) hn (takeN r s k) (by omega)
        have e' : roundN n (takeN r s k) ((a + loN r s k) % n) = 0 := e
        rw [e', cnt_zero] at h1
        omega
theorem pcsC_len {n a s : Nat} {r : Nat → Nat} : ∀ k : Nat, (pcsC n a r s k).length = sumTo (fun c => if takeN r s c = 0 then 0 else 1) k
  | 0 => rfl
  | k + 1 => by
    rw [pcsC, List.length_append, pcsC_len k, sumTo]
    split <;> rfl
theorem pcsC_few {n a s : Nat} {r : Nat → Nat} : ∀ k : Nat, (pcsC n a r s k).length ≤ k
  | 0 => Nat.le_refl _
  | k + 1 => by
    have := pcsC_few (n := n) (a := a) (s := s) (r := r) k
    rw [pcsC, List.length_append]
    split <;> simp <;> omega
/-- More than the current core has room for: the core at which it ends lies behind it. -/
theorem last_core {r : Nat → Nat} {s : Nat} (h1 : ¬ s ≤ r (curN r)) (h2 : s ≤ sumTo r 16) : ∃ e, curN r < e ∧ e < 16 ∧ sumTo r e < s ∧ s ≤ sumTo r (e + 1) := by
  obtain ⟨hc, hc0, hc1⟩ := cur_some (r := r)
  have key : ∀ k, k ≤ 16 → s ≤ sumTo r k → ∃ e, e < k ∧ sumTo r e < s ∧ s ≤ sumTo r (e + 1) := by
    intro k
    induction k with
    | zero => intro _ h; rw [show sumTo r 0 = 0 from rfl] at h; omega
    | succ k ih =>
      intro hk h
      by_cases h3 : s ≤ sumTo r k
      · obtain ⟨e, g1, g2, g3⟩ := ih (by omega) h3
        exact ⟨e, by omega, g2, g3⟩
      · exact ⟨k, by omega, by omega, h⟩
  obtain ⟨e, g1, g2, g3⟩ := key 16 (Nat.le_refl _) h2
  refine ⟨e, ?_, g1, g2, g3⟩
  rcases Nat.lt_or_ge (curN r) e with h | h
  · exact h
  · have := sumTo_mono r (a := e + 1) (b := curN r + 1) (by omega)
    have e2 : sumTo r (curN r + 1) = r (curN r) := by rw [sumTo, sumTo_cur hc0]; omega
    omega
theorem take_core {r : Nat → Nat} {s e : Nat} (g2 : sumTo r e < s) (g3 : s ≤ sumTo r (e + 1)) : takeN r s e = s - sumTo r e ∧ takeN r s e ≠ 0 ∧ r e ≠ 0 := by
  rw [sumTo] at g3
  unfold takeN
  omega
theorem pcs_two {n a s : Nat} {r : Nat → Nat} (h1 : ¬ s ≤ r (curN r)) (h2 : s ≤ sumTo r 16) (h3 : r (curN r) ≠ 0) : 2 ≤ (pcsC n a r s 16).length := by
  obtain ⟨e, g0, g1, g2, g3⟩ := last_core h1 h2
  obtain ⟨_, hc0, _⟩ := cur_some (r := r)
  have h4 : takeN r s (curN r) = r (curN r) := take_all (by rw [sumTo, sumTo_cur hc0]; omega)
  have h5 := (take_core g2 g3).2.1
  rw [pcsC_len]
  have := sumTo_two (g := fun c => if takeN r s c = 0 then 0 else 1) g0 g1
  rw [if_neg (by omega), if_neg h5] at this
  exact this

/-- All pieces: chosen, so that nobody reckons them out. -/
noncomputable def pcsA (n a : Nat) (r : Nat → Nat) (s : Nat) : List Pc := Classical.choose (⟨pcsC n a r s 16, rfl⟩ : ∃ q, q = pcsC n a r s 16)
theorem pcsA_eq (n a : Nat) (r : Nat → Nat) (s : Nat) : pcsA n a r s = pcsC n a r s 16 := Classical.choose_spec (⟨pcsC n a r s 16, rfl⟩ : ∃ q, q = pcsC n a r s 16)
theorem pcsA_rise {m n a s : Nat} {r : Nat → Nat} (ha : a < n) (hn : n ≤ 64) (hs : s ≤ n) (hm : ∀ c, c < 16 → r c ≠ 0 → m.testBit c = true) : Rise m (-1) (pcsA n a r s) := by
  have h := pcs_rise ha hn hs hm
  rw [pcsA_eq]
  generalize hk : 16 = k at h ⊢
  exact h k (Nat.le_refl _)
theorem pcsA_any {n a s : Nat} {r : Nat → Nat} (ha : a < n) (hn : n ≤ 64) (hs : s ≤ n) (hr : s ≤ sumTo r 16) (j : Nat) : nAny (pcsA n a r s) j = (decide (j < n ∧ srcN n a j < s)).toNat := by
  have h := pcs_any (r := r) ha hn hs j
  rw [pcsA_eq]
  generalize hk : 16 = k at hr ⊢
  rw [h k, show loN r s k = s by unfold loN; omega]
theorem pcsA_on {n a s : Nat} {r : Nat → Nat} (ha : a < n) (hn : n ≤ 64) (hs : s ≤ n) {c : Nat} (hc : c < 16) (j : Nat) : nOn (pcsA n a r s) (c : Int) j = (decide (j < n ∧ loN r s c ≤ srcN n a j ∧ srcN n a j < loN r s (c + 1))).toNat := by
  have h := pcs_on (r := r) ha hn hs c j
  rw [pcsA_eq]
  generalize hk : 16 = k at hc ⊢
  rw [h k]
  congr 1
  exact decide_eq_decide.2 ⟨fun h => h.2, fun h => ⟨hc, h⟩⟩
theorem pcsA_count {n a s : Nat} {r : Nat → Nat} (ha : a < n) (hn : n ≤ 64) (hs : s ≤ n) (hr : s ≤ sumTo r 16) : sumTo (nAny (pcsA n a r s)) 64 = s := by
  rw [pcsA_eq]
  generalize hk : 16 = k at hr ⊢
  exact pcs_count ha hn hs hr
theorem pcsA_core {n a s : Nat} {r : Nat → Nat} (ha : a < n) (hn : n ≤ 64) (hs : s ≤ n) {c : Nat} (hc : c < 16) : sumTo (nOn (pcsA n a r s) (c : Int)) 64 = takeN r s c := by
  rw [pcsA_eq]
  generalize hk : 16 = k at hc ⊢
  exact pcs_core ha hn hs hc
theorem pcsA_mem {n a s : Nat} {r : Nat → Nat} {y : Pc} (h : y ∈ pcsA n a r s) : ∃ c, c < 16 ∧ takeN r s c ≠ 0 ∧ y = pcAt n a r s c := by
  rw [pcsA_eq] at h
  generalize hk : 16 = k at h ⊢
  exact pcs_mem h
theorem pcsA_few {n a s : Nat} {r : Nat → Nat} : (pcsA n a r s).length ≤ 16 := by
  rw [pcsA_eq]
  generalize hk : 16 = k
  exact pcsC_few k
theorem pcsA_two {n a s : Nat} {r : Nat → Nat} (h1 : ¬ s ≤ r (curN r)) (h2 : s ≤ sumTo r 16) (h3 : r (curN r) ≠ 0) : 2 ≤ (pcsA n a r s).length := by
  rw [pcsA_eq]
  exact pcs_two h1 h2 h3
end Go.Proofs.YtpfpojehcjmfnaaGreat

/-
  One unit more along the chain: a right plan stays right; what holds behind some wants.
  Conditions: none.
-/
set_option linter.unusedVariables false
namespace Go.Proofs.YtpfpojehcjmfnaaGreat

def rmN (f : Int) (m : Nat) (l : List Pl) (c : Nat) : Nat := (roomN f m l (c : Int)).toNat
theorem Right.room {f : Int} {m : Nat} {l : List Pl} (h : Right f m l) (hl : ∀ c : Int, 0 ≤ loadN l c) {c : Nat} (hc : c < 16) : (rmN f m l c : Int) = roomN f m l (c : Int) ∧ rmN f m l c ≤ f.toNat ∧ (rmN f m l c ≠ 0 → m.testBit c = true) := by
  have h2 := h.f2
  have h3 := hl (c : Int)
  unfold rmN
  unfold roomN
  rw [hasC_nat hc]
  by_cases hb : m.testBit c = true
  · rw [if_pos hb]
    have := h.load c hc hb
    exact ⟨by omega, by omega, fun _ => hb⟩
  · rw [if_neg hb]
    exact ⟨by omega, by omega, fun h => absurd rfl h⟩
theorem load_nonneg {f : Int} {m : Nat} {l : List Pl} (h : Right f m l) (c : Int) : 0 ≤ loadN l c := by
  have h1 := shares_wholes (shares_of h.place h.f64) c
  have h2 : ∀ ps : List Sp, (∀ p ∈ ps, 0 ≤ p.2 ∧ p.2 ≤ 64) → 0 ≤ sumS ps := fun ps hp => (sumS_bound ps hp).1
  have h3 := h2 _ h1
  unfold loadN
  omega
theorem Right.rm {f : Int} {m : Nat} {l : List Pl} (h : Right f m l) {c : Nat} (hc : c < 16) : (rmN f m l c : Int) = roomN f m l (c : Int) ∧ rmN f m l c ≤ f.toNat ∧ (rmN f m l c ≠ 0 → m.testBit c = true) := h.room (load_nonneg h) hc
theorem rm_free {f : Int} {m : Nat} {l : List Pl} (h : Right f m l) : ∀ k : Nat, k ≤ 16 → (sumTo (rmN f m l) k : Int) = freeT f m l k
  | 0, _ => rfl
  | k + 1, hk => by
    have h1 := rm_free h k (by omega)
    have h2 := (h.rm (c := k) (by omega)).1
    rw [sumTo, freeT]
    omega

theorem rm_yes {f : Int} {m : Nat} {l : List Pl} {c : Nat} (hc : c < 16) (hb : m.testBit c = true) : rmN f m l c = (f - loadN l (c : Int)).toNat := by
  unfold rmN roomN
  rw [hasC_nat hc, if_pos hb]
theorem rm_no {f : Int} {m : Nat} {l : List Pl} {c : Nat} (hc : c < 16) (hb : ¬ m.testBit c = true) : rmN f m l c = 0 := by
  unfold rmN roomN
  rw [hasC_nat hc, if_neg hb]
  rfl

theorem put_nOn (d : List Pl) (x : Pl) (k : Nat) (c : Int) (t : Nat) : nOn (pcsOf (putPl d x k)) c t = nOn (pcsOf d) c t + nOn x.ps c t := by
  have e : ∀ a b : List Pl, pcsOf (a ++ b) = pcsOf a ++ pcsOf b := fun a b => by simp [pcsOf]
  have h := put_sum (fun l => (nOn (pcsOf l) c t : Int)) (fun a b => by show ((nOn (pcsOf (a ++ b)) c t : Nat) : Int) = _; rw [e, nOn_append]; omega) d x k
  have h2 : pcsOf [x] = x.ps := by simp [pcsOf]
  simp only [h2] at h
  omega
theorem put_wholes {d : List Pl} {x : Pl} (hx : x.ps ≠ []) (k : Nat) (c : Int) : sumS (wholesT (putPl d x k) c) = sumS (wholesT d c) := by
  rw [put_sum (fun l => sumS (wholesT l c)) (fun a b => by simp only [wholes_append, sumS_append])]
  have e : sumS (wholesT [x] c) = 0 := by
    rw [wholesT_cons]
    unfold wholeB
    rw [decide_eq_false fun h0 => hx (List.eq_nil_of_length_eq_zero h0)]
    simp [wholesT, sumS]
  omega
theorem put_splits {d : List Pl} {x : Pl} (k : Nat) : splitsN (putPl d x k) = splitsN d + (!decide (x.ps.length = 0)).toNat := by
  have h := put_sum (fun l => (splitsN l : Int)) (fun a b => by show ((splitsN (a ++ b) : Nat) : Int) = _; unfold splitsN; rw [List.countP_append]; omega) d x k
  have e : splitsN [x] = (!decide (x.ps.length = 0)).toNat := by unfold splitsN; rw [List.countP_singleton]; cases (!decide (x.ps.length = 0)) <;> rfl
  simp only [e] at h
  omega

/-- What is asked of a plan and a tick, so that a unit may be split from there on. -/
structure Ready (f : Int) (m : Nat) (l : List Pl) (a : Nat) : Prop where
  right : Right f m l
  tick : a < f.toNat
  win : ∀ c : Nat, c < 16 → rmN f m l c ≠ 0 → ∀ j, j < f.toNat → 0 < nOn (pcsOf l) (c : Int) j → (∀ i, i < c → rmN f m l i = 0) ∧ rmN f m l c ≤ srcN f.toNat a j
  bound : ∃ b, b < 16 ∧ m.testBit b = true ∧ splitsN l ≤ cntT m b ∧ ∀ i, i < b → rmN f m l i = 0

/-- A unit that is split along the chain. -/
noncomputable def splP (f : Int) (m : Nat) (l : List Pl) (a : Nat) (w : Sp) : Pl := ⟨w.1, w.2, 0, pcsA f.toNat a (rmN f m l) w.2.toNat⟩

set_option maxHeartbeats 2000000 in
theorem Ready.split {f : Int} {m : Nat} {l : List Pl} {a : Nat} (h : Ready f m l a) {w : Sp} (hn : ∀ y ∈ l, y.u ≠ w.1) (hu : isU w.1 = true) (h1 : 1 ≤ w.2) (h2 : w.2 ≤ f) (hc : ¬ w.2.toNat ≤ rmN f m l (curN (rmN f m l))) (hr : w.2.toNat ≤ sumTo (rmN f m l) 16) :
    Ready f m (addU l (splP f m l a w)) ((a + w.2.toNat) % f.toNat) ∧ (∀ c, c < 16 → rmN f m (addU l (splP f m l a w)) c = rmN f m l c - takeN (rmN f m l) w.2.toNat c) ∧ 2 ≤ (splP f m l a w).ps.length := by
  have hR := h.right
  have hf2 := hR.f2
  have hf64 := hR.f64
  obtain ⟨n, hnn⟩ : ∃ n, f.toNat = n := ⟨_, rfl⟩
  obtain ⟨s, hss⟩ : ∃ s, w.2.toNat = s := ⟨_, rfl⟩
  have hnf : (n : Int) = f := by omega
  have hsw : (s : Int) = w.2 := by omega
  have hn64 : n ≤ 64 := by omega
  have hsn : s ≤ n := by omega
  have ha : a < n := by have := h.tick; omega
  have hrm := fun c hc => hR.rm (c := c) hc
  have hwin := h.win
  obtain ⟨b, hb16, hbb, hbs, hb0⟩ := h.bound
  have hps : (splP f m l a w).ps = pcsA n a (rmN f m l) s := by unfold splP; rw [hnn, hss]
  have hxu : (splP f m l a w).u = w.1 := rfl
  have hxs : (splP f m l a w).s = w.2 := rfl
  have hxc : (splP f m l a w).c = 0 := rfl
  generalize splP f m l a w = x at *
  have hn' : ∀ y ∈ l, y.u ≠ x.u := by rw [hxu]; exact hn
  have hyes : ∀ c, c < 16 → m.testBit c = true → rmN f m l c = (f - loadN l (c : Int)).toNat := fun c hc hb => rm_yes hc hb
  have hno : ∀ c, c < 16 → ¬ m.testBit c = true → rmN f m l c = 0 := fun c hc hb => rm_no hc hb
  generalize rmN f m l = r at *
  rw [hss] at hc hr ⊢
  rw [hnn] at hwin ⊢
  obtain ⟨hk15, hk0, hk1⟩ := cur_some (r := r)
  have hkne : r (curN r) ≠ 0 := by
    rcases Nat.lt_or_ge (curN r) 15 with h3 | h3
    · exact hk1 h3
    · intro e
      have e15 : curN r = 15 := by omega
      have : sumTo r 16 = 0 := by
        rw [sumTo, sumTo_cur (fun i hi => hk0 i (by omega)), ← e15, e]
      omega
  obtain ⟨e, g0, g16, g2, g3⟩ := last_core hc hr
  obtain ⟨te, te0, re0⟩ := take_core g2 g3
  have htwo : 2 ≤ x.ps.length := by rw [hps]; exact pcsA_two hc hr hkne
  have hne : x.ps ≠ [] := fun e => by rw [e] at htwo; exact absurd htwo (by decide)
  have hbits : ∀ c, c < 16 → r c ≠ 0 → m.testBit c = true := fun c hc h => (hrm c hc).2.2 h
  have hrise : Rise m (-1) (pcsA n a r s) := pcsA_rise (m := m) (n := n) (a := a) (s := s) (r := r) ha hn64 hsn hbits
  -- at no tick two, on each core
  have hmeet : ∀ c : Nat, c < 16 → ∀ j, j < 64 → nOn (pcsOf l) (c : Int) j + nOn (pcsA n a r s) (c : Int) j ≤ 1 := fun c hc16 j hj => by
    have k1 := hR.apart c hc16 j hj
    rw [pcsA_on ha hn64 hsn hc16]
    by_cases hd : j < n ∧ loN r s c ≤ srcN n a j ∧ srcN n a j < loN r s (c + 1)
    · rw [decide_eq_true hd]
      obtain ⟨hjn, d1, d2⟩ := hd
      have d3 := lo_succ r s c
      rcases Nat.eq_zero_or_pos (nOn (pcsOf l) (c : Int) j) with h0 | h0
      · rw [h0]; exact Nat.le_refl _
      · have hrc : r c ≠ 0 := fun e => by unfold takeN at d3; omega
        obtain ⟨z1, z2⟩ := hwin c hc16 hrc j hjn h0
        have z3 := sumTo_cur (r := r) z1
        unfold loN at d1 d2
        rw [sumTo, z3] at d2
        omega
    · rw [decide_eq_false hd]
      exact k1
  have hmeet' : ∀ c : Nat, c < 16 → ∀ j, j < 64 → nOn (pcsOf (addU l x)) (c : Int) j ≤ 1 := fun c hc16 j hj => by
    rw [addU_eq hn', put_nOn, hps]
    exact hmeet c hc16 j hj
  -- rooms
  have hload : ∀ c : Nat, c < 16 → loadN (addU l x) (c : Int) = loadN l (c : Int) + (takeN r s c : Int) := fun c hc16 => by
    unfold loadN
    rw [cnt_win (hmeet' c hc16), cnt_win (hR.apart c hc16), addU_eq hn', put_wholes hne]
    have : sumTo (nOn (pcsOf (putPl l x (posU l x.u))) (c : Int)) 64 = sumTo (nOn (pcsOf l) (c : Int)) 64 + takeN r s c := by
      rw [← pcsA_core (r := r) ha hn64 hsn hc16, ← sumTo_add]
      refine sumTo_congr fun t _ => ?_
      rw [put_nOn, hps]
    rw [this]
    omega
  have htr : ∀ c : Nat, takeN r s c ≤ r c := fun c => Nat.min_le_left _ _
  have hrooms : ∀ c, c < 16 → rmN f m (addU l x) c = r c - takeN r s c := fun c hc16 => by
    have q1 := hload c hc16
    have q2 := htr c
    by_cases hb : m.testBit c = true
    · have q3 := hyes c hc16 hb
      rw [rm_yes hc16 hb, q1]
      omega
    · rw [rm_no hc16 hb, hno c hc16 hb, Nat.zero_sub]
  have hzero : ∀ i, i < e → rmN f m (addU l x) i = 0 := fun i hi => by
    rw [hrooms i (by omega), take_all (Nat.le_trans (sumTo_mono _ (show i + 1 ≤ e by omega)) (by omega))]
    omega
  have hce : cntT m b < cntT m e := cntT_lt m (by
    rcases Nat.lt_or_ge b e with h3 | h3
    · exact h3
    · exact absurd (hb0 (curN r) (by omega)) hkne) hbb
  have hbe : m.testBit e = true := (hrm e g16).2.2 re0
  have hsp : splitsN (addU l x) ≤ cntT m e := by
    rw [addU_eq hn', put_splits, decide_eq_false (show ¬ x.ps.length = 0 by omega)]
    show splitsN l + 1 ≤ _
    omega
  have hasc := put_asc hR.pairs hn'
  have hfew : splitsN (addU l x) < coresN m := by
    have q := cntT_lt m g16 hbe
    unfold coresN
    omega
  have hRn : Right f m (addU l x) := by
    refine ⟨hf2, hf64, hR.m0, hR.m16, fun y hy => ?_, fun i z y hx hy => ?_, hmeet', hfew, fun c hc16 hb => ?_⟩
    · rw [addU_eq hn'] at hy
      rcases putPl_mem.1 hy with hy | hy
      · subst hy
        refine ⟨by rw [hxu]; exact hu, by rw [hxs]; exact h1, by rw [hxs]; exact h2, fun e => absurd e hne, fun _ => ⟨hxc, htwo, ?_, ?_, ?_⟩⟩
        · rw [hps]
          exact hrise
        · intro t ht
          rw [hps, pcsA_any ha hn64 hsn hr]
          refine ⟨Bool.toNat_le _, fun h0 => ?_⟩
          by_cases hd : t < n ∧ srcN n a t < s
          · have := hd.1
            omega
          · rw [decide_eq_false hd] at h0
            exact absurd h0 (by decide)
        · rw [hps, pcsA_count ha hn64 hsn hr, hxs]
          exact hsw
      · exact hR.place y hy
    · rw [addU_eq hn'] at hx hy
      exact hasc.next hx hy
    · rw [hload c hc16]
      have q1 := (hrm c hc16).1
      have q2 := htr c
      unfold roomN at q1
      rw [hasC_nat hc16, if_pos hb] at q1
      omega
  refine ⟨⟨hRn, ?_, fun c hc16 hr0 j hj hw => ?_, e, g16, hbe, hsp, hzero⟩, hrooms, htwo⟩
  · rw [hnn]
    exact Nat.mod_lt _ (by omega)
  · rw [hnn] at hj ⊢
    rw [hrooms c hc16] at hr0 ⊢
    rw [addU_eq hn', put_nOn, hps] at hw
    have hlt : sumTo r (c + 1) > s := by
      rcases Nat.lt_or_ge s (sumTo r (c + 1)) with q | q
      · exact q
      · rw [take_all q] at hr0
        omega
    have hold : ¬ 0 < nOn (pcsOf l) (c : Int) j := fun h0 => by
      have hrc : r c ≠ 0 := by omega
      obtain ⟨z1, _⟩ := hwin c hc16 hrc j hj h0
      have z3 := sumTo_cur (r := r) z1
      have z4 := cur_of hc16 hrc z1
      rw [sumTo, z3] at hlt
      rw [z4] at hc
      omega
    have hnew : 0 < nOn (pcsA n a r s) (c : Int) j := by omega
    rw [pcsA_on ha hn64 hsn hc16] at hnew
    by_cases hd : j < n ∧ loN r s c ≤ srcN n a j ∧ srcN n a j < loN r s (c + 1)
    · obtain ⟨_, d1, d2⟩ := hd
      have d3 := lo_le r s (c + 1)
      have hcs : sumTo r c < s := by
        rcases Nat.lt_or_ge (sumTo r c) s with q | q
        · exact q
        · unfold loN at d1 d2
          omega
      have hce' : c = e := by
        rcases Nat.lt_trichotomy c e with q | q | q
        · have := sumTo_mono r (show c + 1 ≤ e by omega)
          omega
        · exact q
        · have := sumTo_mono r (show e + 1 ≤ c by omega)
          omega
      subst hce'
      refine ⟨hzero, ?_⟩
      have q1 := src_add (u := s) ha hsn hj
      have q2 := (hrm c hc16).2.1
      rw [hnn] at q2
      rw [q1, if_neg (by omega)]
      unfold loN at d1
      omega
    · rw [decide_eq_false hd] at hnew
      exact absurd hnew (by decide)
theorem Ready.whole {f : Int} {m : Nat} {l : List Pl} {a : Nat} (h : Ready f m l a) {w : Sp} (hn : ∀ y ∈ l, y.u ≠ w.1) (hu : isU w.1 = true) (h1 : 1 ≤ w.2) (h2 : w.2 ≤ f) (hc : w.2.toNat ≤ rmN f m l (curN (rmN f m l))) :
    Ready f m (addU l ⟨w.1, w.2, (curN (rmN f m l) : Int), []⟩) a ∧ (∀ c, c < 16 → rmN f m (addU l ⟨w.1, w.2, (curN (rmN f m l) : Int), []⟩) c = rmN f m l c - (if c = curN (rmN f m l) then w.2.toNat else 0)) := by
  have hR := h.right
  have hn' : ∀ y ∈ l, y.u ≠ (⟨w.1, w.2, (curN (rmN f m l) : Int), []⟩ : Pl).u := hn
  obtain ⟨hk15, hk0, _⟩ := cur_some (r := rmN f m l)
  have hk16 : curN (rmN f m l) < 16 := by omega
  have hrk := hR.rm hk16
  have hrb : roomB f m l w.2 (curN (rmN f m l)) = true := roomB_iff.2 ⟨hrk.2.2 (by omega), by omega⟩
  have hRn := hR.put hn hu h1 h2 hk16 hrb
  have hrooms : ∀ c, c < 16 → rmN f m (addU l ⟨w.1, w.2, (curN (rmN f m l) : Int), []⟩) c = rmN f m l c - (if c = curN (rmN f m l) then w.2.toNat else 0) := fun c hc16 => by
    have q0 := (hR.rm hc16).1
    have q1 := put_load (d := l) (x := ⟨w.1, w.2, (curN (rmN f m l) : Int), []⟩) rfl (posU l w.1) (c : Int)
    generalize curN (rmN f m l) = k at *
    by_cases hb : m.testBit c = true
    · have q3 := rm_yes (f := f) (l := l) hc16 hb
      rw [rm_yes hc16 hb, addU_eq hn', q1]
      by_cases ec : c = k
      · rw [if_pos ec, if_pos (show ((k : Nat) : Int) = (c : Int) by omega)]
        show (f - (loadN l (c : Int) + w.2)).toNat = _
        omega
      · rw [if_neg ec, if_neg (show ¬ ((k : Nat) : Int) = (c : Int) by omega)]
        omega
    · rw [rm_no hc16 hb, rm_no hc16 hb, Nat.zero_sub]
  refine ⟨⟨hRn, h.tick, fun c hc16 hr0 j hj hw => ?_, ?_⟩, hrooms⟩
  · rw [hrooms c hc16] at hr0 ⊢
    rw [addU_eq hn', put_pcs rfl] at hw
    obtain ⟨z1, z2⟩ := h.win c hc16 (by omega) j hj hw
    refine ⟨fun i hi => ?_, by omega⟩
    rw [hrooms i (by omega), z1 i hi]
    omega
  · obtain ⟨b, b1, b2, b3, b4⟩ := h.bound
    refine ⟨b, b1, b2, ?_, fun i hi => ?_⟩
    · rw [addU_eq hn', put_splits]
      exact b3
    · rw [hrooms i (by omega), b4 i hi]
      omega
end Go.Proofs.YtpfpojehcjmfnaaGreat

/-
  Wants along the chain, one behind the other; why they don't go.
  Conditions: none.
-/
set_option linter.unusedVariables false
namespace Go.Proofs.YtpfpojehcjmfnaaGreat

noncomputable def chS (f : Int) (m : Nat) (st : List Pl × Nat) (w : Sp) : List Pl × Nat :=
  if w.2.toNat ≤ rmN f m st.1 (curN (rmN f m st.1)) then (addU st.1 ⟨w.1, w.2, (curN (rmN f m st.1) : Int), []⟩, st.2)
  else (addU st.1 (splP f m st.1 st.2 w), (st.2 + w.2.toNat) % f.toNat)
noncomputable def chT (f : Int) (m : Nat) (l : List Pl) (ws : List Sp) : List Pl × Nat := ws.foldl (chS f m) (l, 0)
theorem chT_snoc (f : Int) (m : Nat) (l : List Pl) (ws : List Sp) (w : Sp) : chT f m l (ws ++ [w]) = chS f m (chT f m l ws) w := by unfold chT; rw [List.foldl_append]; rfl
theorem chT_take {f : Int} {m : Nat} {l : List Pl} {ws : List Sp} {k : Nat} {w : Sp} (h : ws[k]? = some w) : chT f m l (ws.take (k + 1)) = chS f m (chT f m l (ws.take k)) w := by
  rw [List.take_add_one, h, Option.toList_some, chT_snoc]
theorem chS_whole {f : Int} {m a : Nat} {l : List Pl} {w : Sp} (h : w.2.toNat ≤ rmN f m l (curN (rmN f m l))) : chS f m (l, a) w = (addU l ⟨w.1, w.2, (curN (rmN f m l) : Int), []⟩, a) := if_pos h
theorem chS_split {f : Int} {m a : Nat} {l : List Pl} {w : Sp} (h : ¬ w.2.toNat ≤ rmN f m l (curN (rmN f m l))) : chS f m (l, a) w = (addU l (splP f m l a w), (a + w.2.toNat) % f.toNat) := if_neg h

theorem exP_get {α : Type} {xs : List α} {k : Nat} (h : k < xs.length) : ∃ x, xs[k]? = some x := ⟨xs[k], List.getElem?_eq_getElem h⟩
theorem rise_step {m : Nat} : ∀ {q : List Pc} {last : Int} {k : Nat} {y z : Pc}, Rise m last q → q[k]? = some y → q[k + 1]? = some z → y.c < z.c
  | [], _, _, _, _, _, h, _ => by simp at h
  | x :: q, last, 0, y, z, hr, hy, hz => by
    rw [List.getElem?_cons_zero] at hy
    rw [List.getElem?_cons_succ] at hz
    cases q with
    | nil => simp at hz
    | cons v q =>
      rw [List.getElem?_cons_zero] at hz
      rw [← Option.some.inj hy, ← Option.some.inj hz]
      exact hr.2.2.2.2.1
  | x :: q, last, k + 1, y, z, hr, hy, hz => by
    rw [List.getElem?_cons_succ] at hy hz
    exact rise_step hr.2.2.2 hy hz
/-- What holds behind some wants. -/
structure ChInv (f : Int) (m : Nat) (l0 : List Pl) (ws : List Sp) (st : List Pl × Nat) : Prop where
  ready : Ready f m st.1 st.2
  units : ∀ x ∈ st.1, x ∈ l0 ∨ ∃ w ∈ ws, w.1 = x.u
  keep : ∀ x ∈ l0, x ∈ st.1
  len : st.1.length = l0.length + ws.length
  got : ∀ w ∈ ws, ∃ x ∈ st.1, x.u = w.1 ∧ x.s = w.2
  ok : (∀ x ∈ l0, PlOk x ∧ x.ps.length ≤ 1000) → ∀ x ∈ st.1, PlOk x ∧ x.ps.length ≤ 1000
  full : ∀ x ∈ st.1, ∀ (k : Nat) (y : Pc), k + 1 < x.ps.length → x.ps[k]? = some y → roomN f m st.1 y.c = 0
  free : freeT f m st.1 16 + sumS ws = freeT f m l0 16
theorem room_zero {f : Int} {m : Nat} {l : List Pl} (h : Right f m l) {c : Nat} (hc : c < 16) : roomN f m l (c : Int) = 0 ↔ rmN f m l c = 0 := by
  have := (h.rm hc).1
  omega
theorem free_add {f : Int} {m : Nat} {l : List Pl} {x : Pl} (h : Right f m l) (h' : Right f m (addU l x)) (hn : ∀ y ∈ l, y.u ≠ x.u) : freeT f m (addU l x) 16 + x.s = freeT f m l 16 := by
  have h1 := h.all
  have h2 := h'.all
  rw [addU_eq hn] at h2 ⊢
  have h3 := put_sum (fun l => sumS (wantsT l)) (fun a b => by show sumS (wantsT (a ++ b)) = _; unfold wantsT; rw [List.map_append, sumS_append]) l x (posU l x.u)
  rw [show sumS (wantsT [x]) = x.s by simp [wantsT, sumS]] at h3
  omega
theorem ChInv.add {f : Int} {m : Nat} {l0 : List Pl} {ws : List Sp} {l : List Pl} {a a' : Nat} {w : Sp} {x : Pl} (h : ChInv f m l0 ws (l, a)) (hn : ∀ y ∈ l, y.u ≠ x.u) (hxu : x.u = w.1) (hxs : x.s = w.2) (hxok : PlOk x ∧ x.ps.length ≤ 1000)
    (hr : Ready f m (addU l x) a') (hle : ∀ c, c < 16 → rmN f m (addU l x) c ≤ rmN f m l c) (hfull : ∀ (k : Nat) (y : Pc), k + 1 < x.ps.length → x.ps[k]? = some y → roomN f m (addU l x) y.c = 0) : ChInv f m l0 (ws ++ [w]) (addU l x, a') := by
  have hmem : ∀ y, y ∈ addU l x ↔ y = x ∨ y ∈ l := fun y => by rw [addU_eq hn]; exact putPl_mem
  have hR : Right f m l := h.ready.right
  have hR' : Right f m (addU l x) := hr.right
  refine ⟨hr, fun y hy => ?_, fun y hy => (hmem y).2 (.inr (h.keep y hy)), ?_, fun v hv => ?_, fun ho y hy => ?_, fun z hz k y hk hy => ?_, ?_⟩
  · rcases (hmem y).1 hy with rfl | hy
    · exact .inr ⟨w, by simp, hxu.symm⟩
    · rcases h.units y hy with hl | ⟨v, hv, he⟩
      · exact .inl hl
      · exact .inr ⟨v, List.mem_append_left _ hv, he⟩
  · show (addU l x).length = _
    rw [addU_eq hn, putPl_length, List.length_append, List.length_singleton]
    have := h.len
    simp only at this
    omega
  · rcases List.mem_append.1 hv with hv | hv
    · obtain ⟨y, hy, h1⟩ := h.got v hv
      exact ⟨y, (hmem y).2 (.inr hy), h1⟩
    · rw [List.mem_singleton.1 hv]
      exact ⟨x, (hmem x).2 (.inl rfl), hxu, hxs⟩
  · rcases (hmem y).1 hy with rfl | hy
    · exact hxok
    · exact h.ok ho y hy
  · show roomN f m (addU l x) y.c = 0
    rcases (hmem z).1 hz with rfl | hz
    · exact hfull k y hk hy
    · have h1 := h.full z hz k y hk hy
      have h2 := hasC_range ((hR.place z hz).has y (List.mem_of_getElem? hy))
      obtain ⟨c, hc⟩ := Int.eq_ofNat_of_zero_le h2.1
      have hc16 : c < 16 := by omega
      simp only at h1
      rw [hc] at h1 ⊢
      rw [room_zero hR hc16] at h1
      rw [room_zero hR' hc16]
      have := hle c hc16
      omega
  · have h1 := free_add hR hR' hn
    have h2 := h.free
    show freeT f m (addU l x) 16 + sumS (ws ++ [w]) = _
    rw [sumS_append, show sumS [w] = w.2 by simp [sumS]]
    simp only at h2
    omega
theorem ChInv.next {f : Int} {m : Nat} {l0 : List Pl} {ws : List Sp} {st : List Pl × Nat} {w : Sp} (h : ChInv f m l0 ws st) (hw : WOk f (ws ++ [w])) (h0 : ∀ x ∈ l0, x.u ≠ w.1) (hs : w.2 ≤ freeT f m st.1 16) : ChInv f m l0 (ws ++ [w]) (chS f m st w) := by
  obtain ⟨l, a⟩ := st
  obtain ⟨hu, h1, h2⟩ := hw.all w (by simp)
  have hn : ∀ y ∈ l, y.u ≠ w.1 := fun y hy => by
    rcases h.units y hy with hl | ⟨v, hv, he⟩
    · exact h0 y hl
    · rw [← he]
      exact hw.last v hv
  have hf64 := h.ready.right.f64
  have hur := isU_range hu
  have hrd : Ready f m l a := h.ready
  by_cases hc : w.2.toNat ≤ rmN f m l (curN (rmN f m l))
  · rw [chS_whole hc]
    obtain ⟨k1, k2⟩ := hrd.whole hn hu h1 h2 hc
    have hcur := (cur_some (r := rmN f m l)).1
    refine h.add (x := ⟨w.1, w.2, (curN (rmN f m l) : Int), []⟩) hn rfl rfl ⟨⟨?_, ?_, ?_, (fun y hy => by cases hy)⟩, by simp⟩ k1 (fun c hc16 => by rw [k2 c hc16]; omega) (fun k y hk => by simp at hk)
    · show Int64 w.1
      unfold Int64; omega
    · show Int64 w.2
      unfold Int64; omega
    · show Int64 (curN (rmN f m l) : Int)
      unfold Int64; omega
  · rw [chS_split hc]
    have hsum : w.2.toNat ≤ sumTo (rmN f m l) 16 := by
      have q := rm_free hrd.right 16 (Nat.le_refl _)
      simp only at hs
      omega
    obtain ⟨k1, k2, k3⟩ := hrd.split hn hu h1 h2 hc hsum
    have hx : ∀ y ∈ (splP f m l a w).ps, ∃ c, c < 16 ∧ takeN (rmN f m l) w.2.toNat c ≠ 0 ∧ y = pcAt f.toNat a (rmN f m l) w.2.toNat c := fun y hy => pcsA_mem hy
    have hlen : (splP f m l a w).ps.length ≤ 16 := pcsA_few
    have hmem' : splP f m l a w ∈ addU l (splP f m l a w) := by
      rw [addU_eq (x := splP f m l a w) hn]
      exact putPl_mem.2 (.inl rfl)
    have hps := (k1.right.place _ hmem').split (fun e => by rw [e] at k3; exact absurd k3 (by decide))
    refine h.add (x := splP f m l a w) hn rfl rfl ⟨⟨?_, ?_, ?_, fun y hy => ?_⟩, by omega⟩ k1 (fun c hc16 => by rw [k2 c hc16]; omega) (fun k y hk hy => ?_)
    · show Int64 w.1
      unfold Int64; omega
    · show Int64 w.2
      unfold Int64; omega
    · show Int64 0
      unfold Int64; omega
    · obtain ⟨c, hc16, _, rfl⟩ := hx y hy
      refine ⟨?_, round_lt _ _ _⟩
      show Int64 (c : Int)
      unfold Int64; omega
    · obtain ⟨z, hz⟩ := exP_get hk
      have hyz := rise_step hps.rise hy hz
      obtain ⟨c, hc16, hc0, rfl⟩ := hx y (List.mem_of_getElem? hy)
      obtain ⟨c', hc16', hc0', rfl⟩ := hx z (List.mem_of_getElem? hz)
      have hcc : c < c' := by
        have : (c : Int) < (c' : Int) := hyz
        omega
      show roomN f m (addU l (splP f m l a w)) (c : Int) = 0
      rw [room_zero k1.right hc16, k2 c hc16, take_all (by
        have q1 := sumTo_mono (rmN f m l) (show c + 1 ≤ c' by omega)
        unfold takeN at hc0'
        omega)]
      omega
/-- Wants that may go along the chain. -/
structure ChGoes (f : Int) (m : Nat) (l : List Pl) (ws : List Sp) : Prop where
  goes : Goes f m l ws
  whole : splitsN l = 0
  room : sumS ws ≤ freeT f m l 16
theorem no_pieces : ∀ {l : List Pl}, splitsN l = 0 → pcsOf l = [] ∧ ∀ x ∈ l, x.ps = []
  | [], _ => ⟨rfl, fun x hx => by cases hx⟩
  | y :: l, h => by
    unfold splitsN at h
    rw [List.countP_cons] at h
    have hy : y.ps = [] := by
      by_cases e : y.ps.length = 0
      · exact List.eq_nil_of_length_eq_zero e
      · rw [decide_eq_false e] at h
        simp at h
    have hl : splitsN l = 0 := by unfold splitsN; omega
    obtain ⟨h1, h2⟩ := no_pieces hl
    refine ⟨by rw [pcsOf_cons, hy, h1]; rfl, fun x hx => ?_⟩
    rcases List.mem_cons.1 hx with rfl | hx
    · exact hy
    · exact h2 x hx
theorem low_core {m : Nat} (h : 0 < coresN m) : ∃ b, b < 16 ∧ m.testBit b = true ∧ ∀ i, i < b → m.testBit i = false := by
  have key : ∀ k : Nat, 0 < cntT m k → ∃ b, b < k ∧ m.testBit b = true ∧ ∀ i, i < b → m.testBit i = false := by
    intro k
    induction k with
    | zero => intro h; rw [cntT_zero] at h; omega
    | succ k ih =>
      intro h
      by_cases h0 : 0 < cntT m k
      · obtain ⟨b, h1, h2⟩ := ih h0
        exact ⟨b, by omega, h2⟩
      · have hz : ∀ i, i < k → m.testBit i = false := fun i hi => by
          cases hb : m.testBit i with
          | false => rfl
          | true =>
            have := cntT_lt m hi hb
            omega
        refine ⟨k, by omega, ?_, hz⟩
        rw [cntT_succ] at h
        cases hb : m.testBit k with
        | true => rfl
        | false => rw [hb] at h; simp at h; omega
  exact key 16 h
theorem ChGoes.start {f : Int} {m : Nat} {l : List Pl} {ws : List Sp} (h : ChGoes f m l ws) : ChInv f m l [] (l, 0) := by
  have hR := h.goes.right
  obtain ⟨p1, p2⟩ := no_pieces h.whole
  obtain ⟨b, b1, b2, b3⟩ := low_core (m := m) (Nat.lt_of_le_of_lt (Nat.zero_le _) hR.few)
  have hf := hR.f2
  refine ⟨⟨hR, by show 0 < f.toNat; omega, fun c _ _ j _ hw => ?_, b, b1, b2, by show splitsN l ≤ _; rw [h.whole]; exact Nat.zero_le _, fun i hi => ?_⟩, fun x hx => .inl hx, fun x hx => hx, rfl, (fun w hw => by cases hw), fun ho => ho, fun x hx k y hk => ?_, by simp [sumS]⟩
  · simp only at hw
    rw [p1, nOn_nil] at hw
    exact absurd hw (Nat.lt_irrefl _)
  · exact rm_no (by omega) (by rw [b3 i hi]; decide)
  · rw [p2 x hx] at hk
    exact absurd hk (by simp)
theorem sum_take_le : ∀ (ws : List Sp) (k : Nat), (∀ w ∈ ws, 0 ≤ w.2) → sumS (ws.take k) ≤ sumS ws := fun ws k h => by
  have e : sumS (ws.take k) + sumS (ws.drop k) = sumS ws := by rw [← sumS_append, List.take_append_drop]
  have h2 : ∀ l : List Sp, (∀ v ∈ l, 0 ≤ v.2) → 0 ≤ sumS l := fun l => by
    induction l with
    | nil => intro _; exact Int.le_refl _
    | cons y l ih =>
      intro h0
      have := ih fun v hv => h0 v (by simp [hv])
      have := h0 y (by simp)
      rw [sumS]; omega
  have := h2 (ws.drop k) fun v hv => h v (List.mem_of_mem_drop hv)
  omega
theorem ChGoes.inv {f : Int} {m : Nat} {l : List Pl} {ws : List Sp} (h : ChGoes f m l ws) : ∀ k : Nat, k ≤ ws.length → ChInv f m l (ws.take k) (chT f m l (ws.take k))
  | 0, _ => h.start
  | k + 1, hk => by
    have ih := h.inv k (by omega)
    have hx : ws[k]? = some ws[k] := List.getElem?_eq_getElem (by omega)
    have hW := (WOk.of_chk h.goes.chk).2
    have e : ws.take (k + 1) = ws.take k ++ [ws[k]] := by rw [List.take_add_one, hx, Option.toList_some]
    have hle := sum_take_le ws (k + 1) fun w hw => by have := hW.all w hw; omega
    rw [chT_take hx, e]
    rw [e, sumS_append, show sumS [ws[k]] = ws[k].2 by simp [sumS]] at hle
    refine ih.next ?_ (fun x hx' => anyB_no h.goes.none x hx' ws[k] (List.getElem_mem (by omega))) ?_
    · rw [← e]
      exact WOk.front (b := ws.drop (k + 1)) (by rw [List.take_append_drop]; exact hW)
    · have h1 := ih.free
      have h2 := h.room
      omega
theorem ChGoes.all {f : Int} {m : Nat} {l : List Pl} {ws : List Sp} (h : ChGoes f m l ws) : ChInv f m l ws (chT f m l ws) := by
  have := h.inv ws.length (Nat.le_refl _)
  rwa [List.take_length] at this
/-- Why wants don't go. -/
def Why19 (f : Int) (m : Nat) (l : List Pl) (ws : List Sp) (E : Int) : Prop :=
  (E ≠ 0 ∧ Why f m l ws E) ∨ (Why f m l ws 0 ∧ splitsN l ≠ 0 ∧ E = 15) ∨ (Why f m l ws 0 ∧ splitsN l = 0 ∧ freeT f m l 16 < sumS ws ∧ E = 12) ∨ (ChGoes f m l ws ∧ E = 0)
theorem Why19.unique {f : Int} {m : Nat} {l : List Pl} {ws : List Sp} {E E' : Int} (h : Why19 f m l ws E) (h' : Why19 f m l ws E') : E = E' := by
  rcases h with ⟨h0, h1⟩ | ⟨h1, h2, rfl⟩ | ⟨h1, h2, h3, rfl⟩ | ⟨h1, rfl⟩ <;> rcases h' with ⟨k0, k1⟩ | ⟨k1, k2, rfl⟩ | ⟨k1, k2, k3, rfl⟩ | ⟨k1, rfl⟩
  · exact h1.unique k1
  · exact absurd (h1.unique k1) h0
  · exact absurd (h1.unique k1) h0
  · exact absurd (h1.unique k1.goes.why) h0
  · exact absurd (k1.unique h1) k0
  · rfl
  · exact absurd k2 h2
  · exact absurd k1.whole h2
  · exact absurd (k1.unique h1) k0
  · exact absurd h2 k2
  · rfl
  · have := k1.room; omega
  · exact absurd (k1.unique h1.goes.why) k0
  · exact absurd h1.whole k2
  · have := h1.room; omega
  · rfl
theorem Why19.zero {f : Int} {m : Nat} {l : List Pl} {ws : List Sp} (h : Why19 f m l ws 0) : ChGoes f m l ws := by
  rcases h with ⟨h0, _⟩ | ⟨_, _, h0⟩ | ⟨_, _, _, h0⟩ | ⟨h1, _⟩
  · exact absurd rfl h0
  · exact absurd h0 (by decide)
  · exact absurd h0 (by decide)
  · exact h1
end Go.Proofs.YtpfpojehcjmfnaaGreat
