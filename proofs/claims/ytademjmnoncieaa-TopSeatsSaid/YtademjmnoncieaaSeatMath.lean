/-
  Who is next, by a heap of fractions: the same as by looking through all.
  Conditions: weights that are right.
-/
import Derived.Test.YtademjmnoncieaaSeatsOf
import Derived.Test.YtademjmnoncieaaHeapState
set_option linter.unusedVariables false
namespace Go.Proofs.Ytademjmnoncieaa

/-- Who is next is strictly before all who stand ahead of him. -/
theorem nextT_first {ws hs : List Int} : ∀ {k b : Nat}, nextT ws hs k = some b → ∀ i, i < b → takesB (ws.getD i 0) (hs.getD i 0) = true → (hs.getD b 0 + 1) * ws.getD i 0 < (hs.getD i 0 + 1) * ws.getD b 0
  | 0, b, h, i, hi, _ => by cases h
  | k + 1, b, h, i, hi, hti => by
    rw [nextT] at h
    unfold stepN at h
    by_cases ht : takesB (ws.getD k 0) (hs.getD k 0) = true
    · rw [if_pos ht] at h
      cases ho : nextT ws hs k with
      | none =>
        rw [ho] at h
        injection h with h
        subst h
        have := nextT_none ho i hi
        rw [this] at hti
        cases hti
      | some c =>
        rw [ho] at h
        simp only [] at h
        have tc := nextT_some ho
        obtain ⟨c1, c2, c3, c4⟩ := of_decide_eq_true tc.2
        obtain ⟨k1, k2, k3, k4⟩ := of_decide_eq_true ht
        obtain ⟨i1, i2, i3, i4⟩ := of_decide_eq_true hti
        by_cases hl : lessF ws hs k c = true
        · rw [if_pos hl] at h
          injection h with h
          subst h
          have hl := of_decide_eq_true hl
          have hle := nextT_least ho i hi hti
          -- k < c ≤ i
          have h2' : (hs.getD c 0 + 1) * ws.getD i 0 ≤ (hs.getD i 0 + 1) * ws.getD c 0 := Int.not_lt.1 hle
          generalize hs.getD k 0 + 1 = a at *
          generalize hs.getD c 0 + 1 = b' at *
          generalize hs.getD i 0 + 1 = cc at *
          generalize ws.getD k 0 = p at *
          generalize ws.getD c 0 = q at *
          generalize ws.getD i 0 = r at *
          -- a*q < b'*p, b'*r ≤ cc*q  ⊢ a*r < cc*p
          have e1 : a * q * r < b' * p * r := Int.mul_lt_mul_of_pos_right hl i1
          have e2 : b' * r * p ≤ cc * q * p := Int.mul_le_mul_of_nonneg_right h2' (Int.le_of_lt k1)
          have f1 : a * q * r = a * r * q := by rw [Int.mul_assoc, Int.mul_comm q r, ← Int.mul_assoc]
          have f2 : b' * p * r = b' * r * p := by rw [Int.mul_assoc, Int.mul_comm p r, ← Int.mul_assoc]
          have f3 : cc * q * p = cc * p * q := by rw [Int.mul_assoc, Int.mul_comm q p, ← Int.mul_assoc]
          exact mul_lt_cancel c1 (by omega)
        · rw [if_neg hl] at h
          injection h with h
          subst h
          exact nextT_first ho i hi hti
    · rw [if_neg ht] at h
      exact nextT_first h i hi hti

/-- Who has a weight, and is among the first k, has the key of his next one. -/
def KeyedBy (ws hs : List Int) (s : Hs) (k : Nat) : Prop :=
  s.n = 64 ∧ ∀ i, i < 64 → if i < k ∧ 0 < ws.getD i 0 then ((s.num i : Int) = hs.getD i 0 + 1 ∧ (s.den i : Int) = ws.getD i 0) else s.den i = 0
theorem KeyedBy.yes {ws hs : List Int} {s : Hs} {k i : Nat} (h : KeyedBy ws hs s k) (hi : i < 64) (hk : i < k) (hw : 0 < ws.getD i 0) : (s.num i : Int) = hs.getD i 0 + 1 ∧ (s.den i : Int) = ws.getD i 0 := by
  have := h.2 i hi
  rwa [if_pos ⟨hk, hw⟩] at this
theorem KeyedBy.pos {ws hs : List Int} {s : Hs} {k i : Nat} (h : KeyedBy ws hs s k) (hi : i < 64) (hd : 0 < s.den i) : i < k ∧ 0 < ws.getD i 0 := by
  have := h.2 i hi
  split at this
  · assumption
  · omega
theorem KeyedBy.skip {ws hs : List Int} {s : Hs} {k : Nat} (h : KeyedBy ws hs s k) (hw : ¬ 0 < ws.getD k 0) : KeyedBy ws hs s (k + 1) := by
  refine ⟨h.1, fun i hi => ?_⟩
  have := h.2 i hi
  by_cases e : i = k
  · subst e
    rw [if_neg (fun hh => hw hh.2)]
    rwa [if_neg (fun hh => hw hh.2)] at this
  · by_cases c : i < k ∧ 0 < ws.getD i 0
    · rw [if_pos ⟨by omega, c.2⟩]
      rwa [if_pos c] at this
    · rw [if_neg (fun hh => c ⟨by omega, hh.2⟩)]
      rwa [if_neg c] at this
theorem KeyedBy.put {ws hs : List Int} {s s' : Hs} {k d : Nat} (h : KeyedBy ws hs s k) (hk : k < 64) (h0 : hs.getD k 0 = 0) (hd : (d : Int) = ws.getD k 0) (hp : 0 < d)
    (c : s'.n = s.n ∧ s'.num = upd s.num k 1 ∧ s'.den = upd s.den k d) : KeyedBy ws hs s' (k + 1) := by
  obtain ⟨c1, c2, c3⟩ := c
  refine ⟨c1.trans h.1, fun i hi => ?_⟩
  have := h.2 i hi
  rw [c2, c3]
  by_cases e : i = k
  · subst e
    rw [if_pos ⟨by omega, by omega⟩, upd_same, upd_same, h0]
    exact ⟨rfl, hd⟩
  · rw [upd_other e, upd_other e]
    by_cases cc : i < k ∧ 0 < ws.getD i 0
    · rw [if_pos ⟨by omega, cc.2⟩]
      rwa [if_pos cc] at this
    · rw [if_neg (fun hh => cc ⟨by omega, hh.2⟩)]
      rwa [if_neg cc] at this
theorem KeyedBy.again {ws hs : List Int} {s s' : Hs} {k y nu de : Nat} (h : KeyedBy ws hs s k) (hy : y < k) (hyl : y < hs.length) (hw : 0 < ws.getD y 0) (hn : (nu : Int) = hs.getD y 0 + 1 + 1) (hd : (de : Int) = ws.getD y 0)
    (c : s'.n = s.n ∧ s'.num = upd s.num y nu ∧ s'.den = upd s.den y de) : KeyedBy ws (hs.set y (hs.getD y 0 + 1)) s' k := by
  obtain ⟨c1, c2, c3⟩ := c
  refine ⟨c1.trans h.1, fun i hi => ?_⟩
  have := h.2 i hi
  rw [c2, c3, getD_set _ _ _ _ hyl]
  by_cases e : i = y
  · subst e
    rw [if_pos ⟨hy, hw⟩, upd_same, upd_same, if_pos rfl]
    exact ⟨hn, hd⟩
  · rw [upd_other e, upd_other e, show (if y = i then hs.getD y 0 + 1 else hs.getD i 0) = hs.getD i 0 from if_neg (fun e' => e e'.symm)]
    exact this

/-- The heap's first one is who is next. -/
theorem next_is {ws hs : List Int} {s : Hs} {b : Nat} (k : Okay s) (h : KeyedBy ws hs s ws.length) (hr : Right ws) (hl : hs.length = ws.length) (hf : ∀ i, 0 ≤ hs.getD i 0 ∧ hs.getD i 0 ≤ 1000000) (hb : nextL ws hs = some b) :
    s.m ≠ 0 ∧ s.L 0 = b := by
  have hbs := nextT_some hb
  obtain ⟨b1, b2, b3, b4⟩ := of_decide_eq_true hbs.2
  have hl64 := hr.1
  have hbl : b < ws.length := by have := hbs.1; omega
  obtain ⟨nb, db⟩ := h.yes (i := b) (by omega) hbl b1
  have hdb : 0 < s.den b := by omega
  have hfirst := k.first (x := b) (by rw [h.1]; omega) hdb
  refine ⟨by omega, ?_⟩
  have hlo := k.c.lo 0 (by omega)
  have hon := k.c.on 0 (by omega)
  rw [h.1] at hlo
  generalize hy : s.L 0 = y at *
  obtain ⟨hyl, hyw⟩ := h.pos hlo hon
  obtain ⟨ny, dy⟩ := h.yes hlo hyl hyw
  have hty : takesB (ws.getD y 0) (hs.getD y 0) = true := decide_eq_true ⟨hyw, (hr.getD y).2, (hf y).1, by have := (hf y).2; omega⟩
  have hyl' : y < min ws.length hs.length := by omega
  apply Classical.byContradiction
  intro hne
  rcases s.o.tot y b hon hdb hne with hlt | hlt
  · rcases hlt with hlt | ⟨heq, hlt⟩
    · have := nextT_least hb y hyl' hty
      rw [← ny, ← dy, ← nb, ← db] at this
      have hlt' : (s.num y : Int) * (s.den b : Int) < (s.num b : Int) * (s.den y : Int) := by exact_mod_cast hlt
      exact this hlt'
    · have := nextT_first hb y hlt hty
      rw [← ny, ← dy, ← nb, ← db] at this
      have heq' : (s.num y : Int) * (s.den b : Int) = (s.num b : Int) * (s.den y : Int) := by exact_mod_cast heq
      omega
  · exact hfirst.2 hlt
end Go.Proofs.Ytademjmnoncieaa
